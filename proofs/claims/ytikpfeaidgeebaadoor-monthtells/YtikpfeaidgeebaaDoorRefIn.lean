/-
  What is proved here: what the document's In answers (a contract over the translation). (PeAsk and PeHolds have the same under other names.)
-/
import Derived.Test.YtikpfeaidgeebaaDoorInts
namespace Go.Proofs.YtikpfeaidgeebaaDoor
namespace Zo
open Go.RowKit

theorem has_take {l : List Int} {k : Nat} {x : Int} (h : k < l.length) (hn : (l.take k).contains x = false) (hx : ¬ l.getD k 0 = x) : (l.take (k + 1)).contains x = false := by
  rw [List.take_add_one, List.contains_eq_mem] at *
  rw [List.getD_eq_getElem?_getD] at hx
  rw [List.getElem?_eq_getElem h] at hx ⊢
  simp only [Option.getD_some] at hx
  simp only [decide_eq_false_iff_not] at hn ⊢
  simp only [Option.toList_some, List.mem_append, List.mem_singleton, not_or]
  exact ⟨hn, fun e => hx e.symm⟩
theorem has_hit {l : List Int} {k : Nat} {x : Int} (h : k < l.length) (hx : l.getD k 0 = x) : l.contains x = true := by
  rw [List.getD_eq_getElem?_getD, List.getElem?_eq_getElem h] at hx
  simp only [Option.getD_some] at hx
  rw [List.contains_eq_mem, decide_eq_true_iff, ← hx]
  exact List.getElem_mem h
set_option maxHeartbeats 1000000 in
theorem refIn_any (v : Value) (l : List Int) (x : Int) (w : World) (hv : Ints w v l) (hl : l.length ≤ 1000000000) :
    Calls Tryd.prog 21 #[v, .int .i64 x] w fun e w' => e = .returned (.bool (l.contains x)) ∧ w' = w := by
  obtain ⟨a, cap, rfl, hc⟩ := hv
  rcases hc with rfl | ⟨b, off, rfl, hc⟩
  · go_enter Tryd.func21, Tryd.ntmps21
    go_wp2
    go_loop [5] (fun i => i = .int .i64 0) (fun _ => 0)
    case atStart => rfl
    case round =>
      subst hrel
      go_wp2
      go_ret
      exact ⟨rfl, rfl⟩
  · have HC := Lib.hid hc
    clear hc
    go_enter Tryd.func21, Tryd.ntmps21
    go_wp2
    go_loop [5] (fun i => ∃ k : Nat, k ≤ l.length ∧ i = .int .i64 k ∧ (l.take k).contains x = false) (fun i => l.length - (intOf i).toNat)
    case atStart => exact ⟨0, Nat.zero_le _, rfl, rfl⟩
    case round =>
      obtain ⟨k, hk, rfl, hF⟩ := hrel
      have HF := Lib.hid hF
      clear hF
      by_cases hlt : k < l.length
      · have ck := HC.out k hlt
        obtain ⟨y, hy⟩ : ∃ y, y = l.getD k 0 := ⟨_, rfl⟩
        rw [← hy] at ck
        have HX := Lib.hid hy
        clear hy
        rcases he : (y == x) with _ | _
        · have N1 := Lib.hid (has_take hlt HF.out (x := x) (by rw [← HX.out]; intro q; rw [q] at he; simp at he))
          go_wp2
          go_round
          case rel => exact ⟨k + 1, by omega, by go_num, N1.out⟩
          case measure => simp [intOf]; omega
        · have N0 := Lib.hid (has_hit hlt (x := x) (by rw [← HX.out]; exact beq_iff_eq.1 he))
          go_wp2
          go_ret
          exact ⟨ret_bool (by rw [← List.contains_eq_mem, N0.out]), rfl⟩
      · have N1 : Hid (l.contains x = false) := Lib.hid (by have := HF.out; rwa [List.take_of_length_le (by omega)] at this)
        go_wp2
        go_ret
        exact ⟨ret_bool (by rw [← List.contains_eq_mem, N1.out]), rfl⟩
end Zo
end Go.Proofs.YtikpfeaidgeebaaDoor
