/-
  What is proved here: what the document's Rule answers of any rule (a contract over the translation).
-/
import Derived.Test.YtoncfgfjdlgfcaaGreatDoorRG
import Derived.Test.YtoncfgfjdlgfcaaGreatDoorRefRuleF
import Derived.Test.YtoncfgfjdlgfcaaGreatDoorRefRuleT
namespace Go.Proofs.YtoncfgfjdlgfcaaGreatDoor
open Go.RowKit Cal Txt

theorem ret_rule {a b : Int} (h : a = b) : Ending.returned (.int .i64 a) = .returned (.int .i64 b) := by rw [h]
theorem refRule_any (r : Rl) (vm vd vw vp : Value) (w : World) (hm : Ints w vm r.months) (hd : Ints w vd r.days) (hw : Nths w vw r.weeks) (hp : Ints w vp r.pick) :
    Calls Tryz.prog 51 #[.agg #[.int .i64 r.freq, .int .i64 r.every, .int .i64 r.count, .int .i64 r.till, vm, vd, vw, vp]] w fun e w' => e = .returned (.int .i64 (rf r)) ∧ Below w.heap.size w w' := by
  by_cases h1 : (1 ≤ r.freq ∧ r.freq ≤ 4) ∧ (1 ≤ r.every ∧ r.every ≤ 50) ∧ (0 ≤ r.count ∧ r.count ≤ 200) ∧ (0 ≤ r.till ∧ r.till ≤ 109573)
  case neg =>
    have o : ok1 r = false := decide_eq_false h1
    have e : rf r = 1 := by unfold rf; rw [if_pos o]
    obtain ⟨am, cm, rfl, _⟩ := hm
    obtain ⟨ad, cd, rfl, _⟩ := hd
    obtain ⟨aw, cw, rfl, _⟩ := hw
    obtain ⟨ap, cp, rfl, _⟩ := hp
    exact (refRule_1 _ _ _ _ am ad aw ap _ _ _ _ cm cd cw cp w h1).mono fun _ _ ⟨he, hb⟩ => ⟨he.trans (ret_rule e.symm), hb⟩
  have o1 : ok1 r = true := decide_eq_true h1
  obtain ⟨⟨a1, a2⟩, ⟨a3, a4⟩, ⟨a5, a6⟩, a7, a8⟩ := id h1
  by_cases h2 : ¬ r.count = 0 ∧ ¬ r.till = 0
  case pos =>
    have e : rf r = 3 := by unfold rf; rw [if_neg (by rw [o1]; decide), if_pos h2]
    obtain ⟨am, cm, rfl, _⟩ := hm
    obtain ⟨ad, cd, rfl, _⟩ := hd
    obtain ⟨aw, cw, rfl, _⟩ := hw
    obtain ⟨ap, cp, rfl, _⟩ := hp
    exact (refRule_3 _ _ _ _ am ad aw ap _ _ _ _ cm cd cw cp w a1 a2 a3 a4 a5 a6 a7 a8 h2.1 h2.2).mono fun _ _ ⟨he, hb⟩ => ⟨he.trans (ret_rule e.symm), hb⟩
  by_cases h3 : r.months.length ≤ 12 ∧ r.days.length ≤ 31 ∧ r.weeks.length ≤ 20 ∧ r.pick.length ≤ 20
  case neg =>
    have o2 : ok2 r = false := decide_eq_false h3
    have e : rf r = 4 := by unfold rf; rw [if_neg (by rw [o1]; decide), if_neg h2, if_pos o2]
    obtain ⟨am, cm, rfl, _⟩ := hm
    obtain ⟨ad, cd, rfl, _⟩ := hd
    obtain ⟨aw, cw, rfl, _⟩ := hw
    obtain ⟨ap, cp, rfl, _⟩ := hp
    exact (refRule_4 _ _ _ _ am ad aw ap _ _ _ _ cm cd cw cp w a1 a2 a3 a4 a5 a6 a7 a8 h2 h3).mono fun _ _ ⟨he, hb⟩ => ⟨he.trans (ret_rule e.symm), hb⟩
  have o2 : ok2 r = true := decide_eq_true h3
  have e : rf r = rf5 r := by unfold rf rf5; rw [if_neg (by rw [o1]; decide), if_neg h2, if_neg (by rw [o2]; decide)]
  rw [e]
  rcases hn : anyN r.weeks with _ | _
  · exact refRule_5F r vm vd vw vp w hm hd hw hp a1 a2 a3 a4 a5 a6 a7 a8 (not_both h2) (by omega) (by omega) (by omega) (by omega) hn
  · exact refRule_5T r vm vd vw vp w hm hd hw hp a1 a2 a3 a4 a5 a6 a7 a8 (not_both h2) (by omega) (by omega) (by omega) (by omega) hn
end Go.Proofs.YtoncfgfjdlgfcaaGreatDoor
