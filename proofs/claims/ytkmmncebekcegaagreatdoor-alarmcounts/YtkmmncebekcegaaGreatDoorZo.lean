/-
  What is proved here: what package zone's isAhead, begun, aheadBy, Check, checkBoth, Ahead and Local answer of any zone (contracts over the translation).
-/
import Derived.Test.YtkmmncebekcegaaGreatDoorZoPure
import Derived.Test.YtkmmncebekcegaaGreatDoorClk
import Derived.Test.YtkmmncebekcegaaGreatDoorRuleF
namespace Go.Proofs.YtkmmncebekcegaaGreatDoor
open Go.RowKit Cal Txt Zo

/-- A zone's cells lie in a block. -/
def ZBox (W : World) (b : Nat) (a : Int) (vs : Value) : Prop := W.cell? ⟨b, 0, none⟩ = some (.int .i64 a) ∧ W.cell? ⟨b, 1, none⟩ = some vs
theorem ZBox.lt {W : World} {b : Nat} {a : Int} {vs : Value} (h : ZBox W b a vs) : b < W.heap.size := by
  have k := h.1
  rcases Nat.lt_or_ge b W.heap.size with q | q
  · exact q
  · simp [World.cell?, Array.getElem?_eq_none q] at k
theorem ZBox.on {W W' : World} {b : Nat} {a : Int} {vs : Value} (h : ZBox W b a vs) (q : Below W.heap.size W W') : ZBox W' b a vs :=
  ⟨(q.cell (p := ⟨b, 0, none⟩) h.lt).trans h.1, (q.cell (p := ⟨b, 1, none⟩) h.lt).trans h.2⟩
theorem ZBox.new (W : World) (a : Int) (vs : Value) (t : TypeId) : ZBox (W.alloc (.cells #[.int .i64 a, vs] t)) W.heap.size a vs := ⟨by simp, by simp⟩
/-- A value is a zone. -/
def ZoneIn (w : World) (v : Value) (a : Int) (l : List (Int × Int)) : Prop := ∃ vs, v = .agg #[.int .i64 a, vs] ∧ Nths w vs l
theorem ZoneIn.on {w w' : World} {v : Value} {a : Int} {l : List (Int × Int)} (h : ZoneIn w v a l) (q : Below w.heap.size w w') : ZoneIn w' v a l := by
  obtain ⟨vs, e, k⟩ := h
  exact ⟨vs, e, k.on q⟩
theorem ZoneIn.form {w : World} {v : Value} {a : Int} {l : List (Int × Int)} (h : ZoneIn w v a l) : ∃ sa sc, v = .agg #[.int .i64 a, .slice sa l.length sc] := by
  obtain ⟨vs, rfl, sa, sc, rfl, _⟩ := h
  exact ⟨sa, sc, rfl⟩
theorem isT_ist (t : Int) : isT t = ist t := rfl
/-- Is a number one that a zone may be ahead? -/
def ahB (n : Int) : Bool := decide (-900 ≤ n ∧ n ≤ 900)
theorem isAhead_any (n : Int) (w : World) :
    Calls Tryz.prog 99 #[.int .i64 n] w fun e w' => e = .returned (.bool (ahB n)) ∧ w' = w := by
  by_cases h : -900 ≤ n
  all_goals
    go_enter Tryz.func99, Tryz.ntmps99
    go_wp2
    go_ret
    exact ⟨ret_bool (by unfold ahB; rw [Bool.eq_iff_iff]; simp; omega), rfl⟩
set_option maxHeartbeats 1000000 in
theorem begun_any (a : Int) (l : List (Int × Int)) (v : Value) (u : Int) (w : World) (hv : ZoneIn w v a l) (hl : l.length ≤ 1000000000) :
    Calls Tryz.prog 162 #[v, .int .i64 u] w fun e w' => e = .returned (.int .i64 (beg u l)) ∧ Below w.heap.size w w' := by
  have HV := Lib.hid (fun W (q : Below w.heap.size w W) => hv.on q)
  obtain ⟨sa, sc, rfl⟩ := hv.form
  have B0 := (Below.refl w.heap.size w).alloc (Nat.le_refl _) (.cells #[.int .i64 a, .slice sa l.length sc] 24)
  have HB := Lib.hid B0
  have hn := HV.out _ B0
  clear hv B0
  obtain ⟨_, e', sa', sc', rfl, hc⟩ := hn
  obtain ⟨rfl, rfl⟩ : sa = sa' ∧ sc = sc' := by simpa using e'
  have HC := Lib.hid hc
  have hz := Lib.hid (ZBox.new w a (.slice sa l.length sc) 24)
  clear hc e' HV
  go_enter Tryz.func162, Tryz.ntmps162
  go_wp2_with fail
  generalize w.alloc (.cells #[.int .i64 a, .slice sa l.length sc] 24) = W0 at HB HC hz ⊢
  go_loop [5] (fun i => ∃ k : Nat, k ≤ l.length ∧ i = .int .i64 k ∧ ∀ j, j < k → (l.getD j (0, 0)).1 ≤ u) (fun i => l.length - (intOf i).toNat)
  case atStart => exact ⟨0, Nat.zero_le _, rfl, fun j hj => absurd hj (Nat.not_lt_zero _)⟩
  case round =>
    obtain ⟨k, hk, rfl, hF⟩ := hrel
    have HF := Lib.hid hF
    clear hF
    obtain ⟨z1, z2⟩ := hz.out
    by_cases hlt : k < l.length
    · rcases HC.out with hc | ⟨b, off, rfl, hc⟩
      · rw [hc] at hlt; simp at hlt
      have k1 := (hc k hlt).1
      obtain ⟨x, hx⟩ : ∃ x, x = (l.getD k (0, 0)).1 := ⟨_, rfl⟩
      rw [← hx] at k1
      have HX := Lib.hid hx
      clear hc hx
      by_cases hu : x ≤ u
      · have N1 : Hid (∀ j, j < k + 1 → (l.getD j (0, 0)).1 ≤ u) := Lib.hid (fun j hj => by
          rcases Nat.lt_or_ge j k with g | g
          · exact HF.out j g
          · rw [show j = k by omega, ← HX.out]; exact hu)
        go_wp2
        go_round
        case rel => exact ⟨k + 1, by omega, by go_num, N1.out⟩
        case measure => simp [intOf]; omega
      · have N1 : Hid (beg u l = k) := Lib.hid (beg_of (by omega) HF.out (fun _ => by rw [← HX.out]; omega))
        go_wp2
        go_ret
        exact ⟨ret_int (by rw [N1.out]), HB.out⟩
    · have N1 : Hid (beg u l = k) := Lib.hid (beg_of (by omega) HF.out (fun q => absurd q hlt))
      go_wp2
      go_ret
      exact ⟨ret_int (by rw [N1.out]), HB.out⟩
set_option maxHeartbeats 1000000 in
theorem aheadBy_any (a : Int) (l : List (Int × Int)) (v : Value) (k : Nat) (w : World) (hv : ZoneIn w v a l) (hk : k ≤ l.length) (hl : l.length ≤ 1000000000) :
    Calls Tryz.prog 161 #[v, .int .i64 k] w fun e w' => e = .returned (.int .i64 (zah a l k)) ∧ Below w.heap.size w w' := by
  have HV := Lib.hid (fun W (q : Below w.heap.size w W) => hv.on q)
  obtain ⟨sa, sc, rfl⟩ := hv.form
  have B0 := (Below.refl w.heap.size w).alloc (Nat.le_refl _) (.cells #[.int .i64 a, .slice sa l.length sc] 24)
  have HB := Lib.hid B0
  have hn := HV.out _ B0
  clear hv B0
  obtain ⟨_, e', sa', sc', rfl, hc⟩ := hn
  obtain ⟨rfl, rfl⟩ : sa = sa' ∧ sc = sc' := by simpa using e'
  have HC := Lib.hid hc
  clear hc e' HV
  rcases h0 : ((k : Int) == 0) with _ | _
  · have k0 : 0 < k := by have := beq_eq_false_iff_ne.1 h0; omega
    have N1 : Hid (zah a l k = (l.getD (k - 1) (0, 0)).2) := Lib.hid (if_neg (by omega))
    rcases HC.out with hc | ⟨b, off, rfl, hc⟩
    · rw [hc] at hk; simp at hk; omega
    have k1 := (hc (k - 1) (by omega)).2
    obtain ⟨x, hx⟩ : ∃ x, x = (l.getD (k - 1) (0, 0)).2 := ⟨_, rfl⟩
    rw [← hx] at k1
    have HX := Lib.hid hx
    obtain ⟨j, rfl⟩ : ∃ j, k = j + 1 := ⟨k - 1, by omega⟩
    have k1' : (w.alloc (.cells #[.int .i64 a, .slice (some ⟨b, off, none⟩) l.length sc] 24)).cell? ⟨b, off + j * 2 + 1, none⟩ = some (.int .i64 x) := k1
    clear hc hx k1 HC
    go_enter Tryz.func161, Tryz.ntmps161
    go_wp2
    go_ret
    exact ⟨ret_int (by rw [N1.out, HX.out]), HB.out⟩
  · have N1 : Hid (zah a l k = a) := Lib.hid (if_pos (by have := beq_iff_eq.1 h0; omega))
    go_enter Tryz.func161, Tryz.ntmps161
    go_wp2
    go_ret
    exact ⟨ret_int (by rw [N1.out]), HB.out⟩
end Go.Proofs.YtkmmncebekcegaaGreatDoor
