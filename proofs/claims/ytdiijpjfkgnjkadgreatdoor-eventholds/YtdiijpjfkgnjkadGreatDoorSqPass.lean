/-
  What is proved here: how many periods package seq passes over (a contract over the translation).
-/
import Derived.Test.YtdiijpjfkgnjkadGreatDoorSqOn
import Derived.BigQuiet
namespace Go.Proofs.YtdiijpjfkgnjkadGreatDoor
open Go.RowKit Cal Txt

/-- The longest period of a frequency. -/
def lng (f : Int) : Int := if f = 2 then 7 else if f = 3 then 31 else if f = 4 then 366 else 1
/-- So many periods are passed over. -/
def psd (r : Rl) (s n : Int) : Int := if r.count ≠ 0 ∨ n ≤ s then 0 else (n - s) / (r.every * lng r.freq)
theorem lng_bd (f : Int) : 1 ≤ lng f ∧ lng f ≤ 366 := by unfold lng; split; omega; split; omega; split <;> omega
set_option maxRecDepth 100000 in
theorem longest_any (f : Int) (w : World) : Calls Tryz.prog 124 #[.int .i64 f] w fun e w' => e = .returned (.int .i64 (lng f)) ∧ w' = w := by
  unfold lng
  by_cases h2 : f = 2
  · subst h2
    go_enter Tryz.func124, Tryz.ntmps124
    go_wp2
    go_ret
    exact ⟨rfl, rfl⟩
  by_cases h3 : f = 3
  · subst h3
    go_enter Tryz.func124, Tryz.ntmps124
    go_wp2
    go_ret
    exact ⟨rfl, rfl⟩
  by_cases h4 : f = 4
  · subst h4
    go_enter Tryz.func124, Tryz.ntmps124
    go_wp2
    go_ret
    exact ⟨rfl, rfl⟩
  rw [if_neg h2, if_neg h3, if_neg h4]
  have e2 : (f == 2) = false := by simpa using h2
  have e3 : (f == 3) = false := by simpa using h3
  have e4 : (f == 4) = false := by simpa using h4
  go_enter Tryz.func124, Tryz.ntmps124
  go_wp2
  go_ret
  exact ⟨rfl, rfl⟩
set_option maxRecDepth 100000 in
set_option maxHeartbeats 1000000 in
theorem passed_any (r : Rl) (am ad aw ap : Option Addr) (cm cd cw cp : Nat) (s n : Int) (w : World) (he : 1 ≤ r.every ∧ r.every ≤ 50) (hs : 1 ≤ s) (hn : n ≤ s ∨ n ≤ 9223372036854775807) :
    Calls Tryz.prog 115 #[(.agg #[.int .i64 r.freq, .int .i64 r.every, .int .i64 r.count, .int .i64 r.till, .slice am r.months.length cm, .slice ad r.days.length cd, .slice aw r.weeks.length cw, .slice ap r.pick.length cp]), .int .i64 s, .int .i64 n] w fun e w' => e = .returned (.int .i64 (psd r s n)) ∧ Below w.heap.size w w' := by
  by_cases hc : r.count = 0
  · by_cases hns : n ≤ s
    · have EP : Hid (psd r s n = 0) := Lib.hid (if_pos (Or.inr hns))
      have e1 : (r.count == 0) = true := by simpa using hc
      go_enter Tryz.func115, Tryz.ntmps115
      go_wp2
      go_ret
      exact ⟨by rw [EP.out]; rfl, (Below.refl _ _).alloc (Nat.le_refl _) _⟩
    · have hn' : n ≤ 9223372036854775807 := hn.resolve_left hns
      clear hn
      have lb := lng_bd r.freq
      have m1 : 1 ≤ r.every * lng r.freq ∧ r.every * lng r.freq ≤ 18300 := by
        have a := Int.mul_le_mul he.1 lb.1 (by omega) (by omega)
        have b := Int.mul_le_mul he.2 lb.2 (by omega) (by omega)
        omega
      have EP : Hid (psd r s n = (n - s).tdiv (r.every * lng r.freq)) := Lib.hid ((if_neg (by omega)).trans (Int.tdiv_eq_ediv_of_nonneg (by omega)).symm)
      have e1 : (r.count == 0) = true := by simpa using hc
      have QB : 0 ≤ (n - s).tdiv (r.every * lng r.freq) ∧ (n - s).tdiv (r.every * lng r.freq) ≤ n - s := by
        rw [Int.tdiv_eq_ediv_of_nonneg (by omega)]
        exact ⟨Int.ediv_nonneg (by omega) (by omega), Int.ediv_le_self _ (by omega)⟩
      have KL := Lib.hid (fun W => longest_any r.freq W)
      generalize lng r.freq = L at lb m1 EP QB KL
      generalize hm : r.every * L = M at m1 EP QB
      go_enter Tryz.func115, Tryz.ntmps115
      go_wp2_with fail
      go_big_quiet ((go_at_call 124; exact Calls.quiet_of_same (KL.out _)))
      go_wp2
      go_ret
      exact ⟨by rw [EP.out, ← hm]; rfl, below_drewN ((Below.refl _ _).alloc (Nat.le_refl _) _) _⟩
  · have EP : Hid (psd r s n = 0) := Lib.hid (if_pos (Or.inl hc))
    have e1 : (r.count == 0) = false := by simpa using hc
    go_enter Tryz.func115, Tryz.ntmps115
    go_wp2
    go_ret
    exact ⟨by rw [EP.out]; rfl, (Below.refl _ _).alloc (Nat.le_refl _) _⟩
end Go.Proofs.YtdiijpjfkgnjkadGreatDoor
