/-
  What is proved here: what chimesame's Times answers of two lists that are the same (a contract over the translation); Times appended to Times.
-/
import Derived.Test.YthdohcjingfpoaaGreatDoorDA
import Derived.Test.YthdohcjingfpoaaGreatDoorBQ
import Derived.BigQuiet
namespace Go.Proofs.YthdohcjingfpoaaGreatDoor
open Go.RowKit Cal Txt

theorem ebox17 {X : World} {b : Nat} {e : Evt} {s : Evs} (h : EBox X b e s) : (X.cell? ⟨b, 0, none⟩ = some (.string e.name) ∧ X.cell? ⟨b, 1, none⟩ = some (.string e.text) ∧ X.cell? ⟨b, 2, none⟩ = some (.int .i64 e.start) ∧ X.cell? ⟨b, 3, none⟩ = some (.int .i64 e.len) ∧ X.cell? ⟨b, 4, none⟩ = some (.bool e.rep) ∧ X.cell? ⟨b, 5, none⟩ = some (.int .i64 e.rule.freq) ∧ X.cell? ⟨b, 6, none⟩ = some (.int .i64 e.rule.every) ∧ X.cell? ⟨b, 7, none⟩ = some (.int .i64 e.rule.count) ∧ X.cell? ⟨b, 8, none⟩ = some (.int .i64 e.rule.till) ∧ X.cell? ⟨b, 9, none⟩ = some s.vm ∧ X.cell? ⟨b, 10, none⟩ = some s.vd ∧ X.cell? ⟨b, 11, none⟩ = some s.vw ∧ X.cell? ⟨b, 12, none⟩ = some s.vp ∧ X.cell? ⟨b, 13, none⟩ = some s.vo ∧ X.cell? ⟨b, 14, none⟩ = some s.vn ∧ X.cell? ⟨b, 15, none⟩ = some s.vc ∧ X.cell? ⟨b, 16, none⟩ = some s.va) := by
  obtain ⟨⟨a0, a1, a2, a3, a4⟩, ⟨b0, b1, b2, b3, b4, b5, b6, b7⟩, c0, c1, c2, c3⟩ := h
  exact ⟨a0, a1, a2, a3, a4, b0, b1, b2, b3, b4, b5, b6, b7, c0, c1, c2, c3⟩
theorem app3_any {w : World} {n0 : Nat} {v vo : Value} {l mo : List Tm} (h : w.ownsRow n0 145 3 v l.length (prt l)) {n1 : Nat} (hm : w.ownsRow n1 145 3 vo mo.length (prt mo)) (hn : n0 ≤ w.heap.size) (hl : l.length + mo.length ≤ 1000000) :
    ∃ v' w', (∀ ty, (Builtin.append_ #[141, 141] ty #[v, vo]).run Tryz.prog w = .ok v' w') ∧ w'.ownsRow n0 145 3 v' (l ++ mo).length (prt (l ++ mo)) ∧ Below n0 w w' :=
  appK_any (enc := encT) (k := 3) (fun _ => rfl) (by decide) (fun x u hu => by simp [encT] at hu; rcases hu with rfl | rfl | rfl <;> rfl) Tryz.underlying141 info_ti_tm rfl (by decide) h (own_rowK (enc := encT) (k := 3) (fun _ => rfl) (by decide) hm) hn (by omega)
theorem own_tms {w : World} {n0 n : Nat} {v : Value} {l : List Tm} (h : w.ownsRow n0 145 3 v n (prt l)) : Tms w v l := by
  rcases own_times h with ⟨rfl, rfl⟩ | ⟨g, cap, rfl, _, _, hh⟩
  · exact nil_tms w
  · exact holds_times hh
end Go.Proofs.YthdohcjingfpoaaGreatDoor
