/-
  What is proved here: what holds on the way through the document's list, ring by ring, where a wheel goes on.
-/
import Derived.Test.YtpnbnnndpbjgmaaDoorWhPlP
import Derived.Test.YtpnbnnndpbjgmaaDoorWhDue
namespace Go.Proofs.YtpnbnnndpbjgmaaDoor.Qu
open Go.RowKit

def lnV : Value → Nat
  | .slice _ n _ => n
  | _ => 0
theorem due_walk {M : List Rq} (h : Rs M) (T : Int) : (∀ j, j < (dueQ M T).length → ∃ x N, M.drop j = x :: N ∧ M.drop (j + 1) = N ∧ x.1 ≤ T ∧ M.take (j + 1) = M.take j ++ [x]) ∧ M.take (dueQ M T).length = dueQ M T ∧ M.drop (dueQ M T).length = laterQ M T := by
  have hs := due_split h T
  refine ⟨fun j hj => ?_, ?_, ?_⟩
  · have hM : j < M.length := by rw [← hs, List.length_append]; omega
    refine ⟨M.getD j zq, M.drop (j + 1), ?_, rfl, ?_, take_one hM⟩
    · rw [List.drop_eq_getElem_cons hM, List.getD_eq_getElem?_getD, List.getElem?_eq_getElem hM]
      rfl
    · have e0 : M.getD j zq = (dueQ M T ++ laterQ M T).getD j zq := by rw [hs]
      have e : M.getD j zq = (dueQ M T).getD j zq := by
        rw [e0, List.getD_eq_getElem?_getD, List.getD_eq_getElem?_getD, List.getElem?_append_left hj]
      rw [e]
      exact (dueQ_mem.1 (getD_mem hj)).2
  · have e : M.take (dueQ M T).length = (dueQ M T ++ laterQ M T).take (dueQ M T).length := by rw [hs]
    rw [e, List.take_left]
  · have e : M.drop (dueQ M T).length = (dueQ M T ++ laterQ M T).drop (dueQ M T).length := by rw [hs]
    rw [e, List.drop_left]
/-- On the way through the list: so many are told. -/
def Lp (W : World) (m : Value) (M : List Rq) (j : Nat) (mv dv : Value) (wr : World) : Prop := Below W.heap.size W wr ∧ Ow wr W.heap.size dv (M.take j) ∧ Rw wr mv (M.drop j) ∧ ∀ k, mv.ownBlock = some k → m.ownBlock = some k
theorem lp_step {W wr : World} {m dv : Value} {M N : List Rq} {x : Rq} {j mb off c : Nat} (hm : ∀ k, m.ownBlock = some k → k < W.heap.size) (hl : M.length ≤ 400) (h : Lp W m M j (.slice (some ⟨mb, off, none⟩) (N.length + 1) c) dv wr) (h1 : M.drop j = x :: N) (h2 : M.drop (j + 1) = N) (h3 : M.take (j + 1) = M.take j ++ [x]) :
    ∃ v' w3, (∀ ty, (Builtin.append_ #[23, 23] ty #[dv, .slice (some ⟨wr.heap.size, 0, none⟩) 1 1]).run Tryd.prog (wr.alloc (.cells #[.int .i64 x.1, .string x.2.1, .int .i64 x.2.2.1, .int .i64 x.2.2.2.1, .int .i64 x.2.2.2.2] 34)) = .ok v' w3) ∧ Lp W m M (j + 1) (.slice (if c = 1 then some ⟨mb, off, none⟩ else some ⟨mb, off + 5, none⟩) N.length (c - 1)) v' w3 := by
  obtain ⟨q1, q2, q3, q4⟩ := h
  have qY : Below wr.heap.size wr (wr.alloc (.cells #[.int .i64 x.1, .string x.2.1, .int .i64 x.2.2.1, .int .i64 x.2.2.2.1, .int .i64 x.2.2.2.2] 34)) := below_alloc _ _
  have b1 : Below W.heap.size W (wr.alloc (.cells #[.int .i64 x.1, .string x.2.1, .int .i64 x.2.2.1, .int .i64 x.2.2.2.1, .int .i64 x.2.2.2.2] 34)) := q1.trans (qY.mono q1.size)
  have o1 : Ow (wr.alloc (.cells #[.int .i64 x.1, .string x.2.1, .int .i64 x.2.2.1, .int .i64 x.2.2.2.1, .int .i64 x.2.2.2.2] 34)) W.heap.size dv (M.take j) := own_on q2 (fun g hg => qY.block g (q2.lt g hg).2)
  obtain ⟨v', w3, ap, o3, g3, _⟩ := app5_at o1 (rd_new wr x) b1.size (by rw [List.length_take]; simp only [List.length_cons, List.length_nil]; omega)
  have b3 := grown_low o1 b1.size g3
  rw [← h3] at o3
  rw [h1] at q3
  have tl := Rw.tail (M := N) (x := x) (q3.on qY)
  refine ⟨v', w3, ap, b1.trans b3, o3, ?_, fun k hk => ?_⟩
  · rw [h2]
    refine tl.blk (fun k hk => b3.block k (hm k ?_))
    by_cases hc : c = 1
    · rw [if_pos hc] at hk; exact q4 k hk
    · rw [if_neg hc] at hk; exact q4 k hk
  · by_cases hc : c = 1
    · rw [if_pos hc] at hk; exact q4 k hk
    · rw [if_neg hc] at hk; exact q4 k hk
end Go.Proofs.YtpnbnnndpbjgmaaDoor.Qu
