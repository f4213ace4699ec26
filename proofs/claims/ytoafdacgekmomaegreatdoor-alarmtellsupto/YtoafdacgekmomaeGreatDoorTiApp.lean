/-
  What is proved here: what chimesame's Times answers of two lists that are the same (a contract over the translation); Times appended to Times.
-/
import Derived.Test.YtoafdacgekmomaeGreatDoorDA
import Derived.Test.YtoafdacgekmomaeGreatDoorBQ
import Derived.BigQuiet
namespace Go.Proofs.YtoafdacgekmomaeGreatDoor
open Go.RowKit Cal Txt

theorem ebox17 {X : World} {b : Nat} {e : Evt} {s : Evs} (h : EBox X b e s) : (X.cell? ⟨b, 0, none⟩ = some (.string e.name) ∧ X.cell? ⟨b, 1, none⟩ = some (.string e.text) ∧ X.cell? ⟨b, 2, none⟩ = some (.int .i64 e.start) ∧ X.cell? ⟨b, 3, none⟩ = some (.int .i64 e.len) ∧ X.cell? ⟨b, 4, none⟩ = some (.bool e.rep) ∧ X.cell? ⟨b, 5, none⟩ = some (.int .i64 e.rule.freq) ∧ X.cell? ⟨b, 6, none⟩ = some (.int .i64 e.rule.every) ∧ X.cell? ⟨b, 7, none⟩ = some (.int .i64 e.rule.count) ∧ X.cell? ⟨b, 8, none⟩ = some (.int .i64 e.rule.till) ∧ X.cell? ⟨b, 9, none⟩ = some s.vm ∧ X.cell? ⟨b, 10, none⟩ = some s.vd ∧ X.cell? ⟨b, 11, none⟩ = some s.vw ∧ X.cell? ⟨b, 12, none⟩ = some s.vp ∧ X.cell? ⟨b, 13, none⟩ = some s.vo ∧ X.cell? ⟨b, 14, none⟩ = some s.vn ∧ X.cell? ⟨b, 15, none⟩ = some s.vc ∧ X.cell? ⟨b, 16, none⟩ = some s.va) := by
  obtain ⟨⟨a0, a1, a2, a3, a4⟩, ⟨b0, b1, b2, b3, b4, b5, b6, b7⟩, c0, c1, c2, c3⟩ := h
  exact ⟨a0, a1, a2, a3, a4, b0, b1, b2, b3, b4, b5, b6, b7, c0, c1, c2, c3⟩
theorem app3_any {w : World} {n0 : Nat} {v vo : Value} {l mo : List Tm} (h : w.ownsRow n0 49 3 v l.length (prt l)) {n1 : Nat} (hm : w.ownsRow n1 49 3 vo mo.length (prt mo)) (hn : n0 ≤ w.heap.size) (hl : l.length + mo.length ≤ 1000000) :
    ∃ v' w', (∀ ty, (Builtin.append_ #[41, 41] ty #[v, vo]).run Tryz.prog w = .ok v' w') ∧ w'.ownsRow n0 49 3 v' (l ++ mo).length (prt (l ++ mo)) ∧ Below n0 w w' :=
  appK_any (enc := encT) (k := 3) (fun _ => rfl) (by decide) (fun x u hu => by simp [encT] at hu; rcases hu with rfl | rfl | rfl <;> rfl) Tryz.underlying41 info_ti_tm rfl (by decide) h (own_rowK (enc := encT) (k := 3) (fun _ => rfl) (by decide) hm) hn (by omega)
theorem own_tms {w : World} {n0 n : Nat} {v : Value} {l : List Tm} (h : w.ownsRow n0 49 3 v n (prt l)) : Tms w v l := by
  rcases own_times h with ⟨rfl, rfl⟩ | ⟨g, cap, rfl, _, _, hh⟩
  · exact nil_tms w
  · exact holds_times hh
set_option maxRecDepth 100000 in
set_option maxHeartbeats 2000000 in
theorem sameTimes (l : List Tm) (va vb : Value) (w : World) (ha : Tms w va l) (hb : Tms w vb l) (hl : l.length ≤ 2000000) :
    Calls Tryz.prog 16 #[va, vb] w fun e w' => e = .returned (.bool true) ∧ Below w.heap.size w w' := by
  have HA := Lib.hid ha
  have HBb := Lib.hid hb
  obtain ⟨aa, ca, rfl, xa⟩ := ha
  obtain ⟨ab, cb, rfl, xb⟩ := hb
  clear xa xb
  go_enter Tryz.func16, Tryz.ntmps16
  go_wp2
  go_loopw [5] (fun i wr => ∃ k : Nat, k ≤ l.length ∧ i = .int .i64 k ∧ Below w.heap.size w wr) (fun i _ => l.length - (intOf i).toNat)
  case atStart => exact ⟨0, Nat.zero_le _, rfl, Below.refl _ _⟩
  case round =>
    obtain ⟨k, hk, rfl, hB⟩ := hrel
    by_cases hlt : k < l.length
    · obtain ⟨a', c', e', hc⟩ := HA.out.on hB
      obtain ⟨rfl, rfl⟩ : aa = a' ∧ ca = c' := by simpa using e'
      obtain ⟨a2, c2, e2, hd⟩ := HBb.out.on hB
      obtain ⟨rfl, rfl⟩ : ab = a2 ∧ cb = c2 := by simpa using e2
      rcases hc with hc | ⟨b, off, rfl, hc⟩
      · rw [hc] at hlt; simp at hlt
      rcases hd with hd | ⟨b2, off2, rfl, hd⟩
      · rw [hd] at hlt; simp at hlt
      obtain ⟨p0, p1, p2⟩ := hc k hlt
      obtain ⟨q0, q1, q2⟩ := hd k hlt
      generalize l.getD k (0, 0, 0) = Y at p0 p1 p2 q0 q1 q2
      obtain ⟨x, y, z⟩ := Y
      dsimp only at p0 p1 p2 q0 q1 q2
      clear hc hd e' e2
      go_wp2_with fail
      go_quiet (fail)
      go_wp2
      go_roundw
      case rel => exact ⟨k + 1, by omega, by go_num, below_drewN hB _⟩
      case measure => simp [intOf]; omega
    · go_wp2
      go_ret
      exact ⟨rfl, hB⟩
end Go.Proofs.YtoafdacgekmomaeGreatDoor
