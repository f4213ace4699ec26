/-
  What is proved here: small words on a list of pairs that a call gathers by append, also where the append stands in a region that draws its order.
-/
import Derived.Test.YtkmmncebekcegaaGreatDoorRuleF
import Derived.Test.YtkmmncebekcegaaGreatDoorBF
import Derived.Maps.AppendAt
import Derived.Deep.RegionHeld3
namespace Go.Proofs.YtkmmncebekcegaaGreatDoor
namespace Zo
open Go.RowKit

/-- Pairs as cells. -/
def prc (xs : List (Int × Int)) : List Value := xs.flatMap fun x => [.int .i64 x.1, .int .i64 x.2]
theorem prs_snoc (xs : List (Int × Int)) (y : Int × Int) : prc (xs ++ [y]) = prc xs ++ [.int .i64 y.1, .int .i64 y.2] := by simp [prc]
theorem prc_len (xs : List (Int × Int)) : (prc xs).length = xs.length * 2 := by
  induction xs with
  | nil => rfl
  | cons a r ih => show ([_, _] ++ prc r).length = _; rw [List.length_append, ih, List.length_cons]; simp; omega
theorem prc_at : ∀ (xs : List (Int × Int)) (i : Nat), i < xs.length → (prc xs)[i * 2]? = some (.int .i64 (xs.getD i (0, 0)).1) ∧ (prc xs)[i * 2 + 1]? = some (.int .i64 (xs.getD i (0, 0)).2)
  | a :: r, 0, _ => ⟨rfl, rfl⟩
  | a :: r, i + 1, h => by
    have ih := prc_at r i (by simpa using h)
    have e1 : (i + 1) * 2 = i * 2 + 2 := by omega
    show (Value.int .i64 a.1 :: Value.int .i64 a.2 :: prc r)[(i + 1) * 2]? = _ ∧ (Value.int .i64 a.1 :: Value.int .i64 a.2 :: prc r)[(i + 1) * 2 + 1]? = _
    rw [e1, show i * 2 + 2 + 1 = i * 2 + 1 + 2 by omega]
    simpa using ih
theorem own_prs {W : World} {base : Nat} {e : TypeId} {v : Value} {n : Nat} {xs : List (Int × Int)} (h : W.ownsRow base e 2 v n (prc xs)) : Nths W v xs := by
  have hl : xs.length = n := by have := h.1; rw [prc_len] at this; omega
  rcases h.2 with ⟨hv, h0⟩ | ⟨g, cap, cur, hv, hb, hg, hc, hm, hs, ht⟩
  · exact ⟨none, 0, by rw [hv, hl, h0], Or.inl (List.eq_nil_of_length_eq_zero (by omega))⟩
  · refine ⟨some ⟨g, 0, none⟩, cap, by rw [hv, hl], Or.inr ⟨g, 0, rfl, fun i hi => ?_⟩⟩
    have hadd : ∀ j, (⟨g, 0, none⟩ : Addr).add j = ⟨g, 0 + j, none⟩ := fun j => by unfold Addr.add; split <;> simp_all
    obtain ⟨q1, q2⟩ := prc_at xs i hi
    have c1 := h.cells (g := g) (by rw [hv]; rfl) _ _ q1
    have c2 := h.cells (g := g) (by rw [hv]; rfl) _ _ q2
    rw [hadd] at c1 c2
    exact ⟨c1, by rw [Nat.add_assoc]; exact c2⟩
/-- A struct of two cells lies in a block of its own. -/
def Obj2 (W : World) (b : Nat) (t : TypeId) (u v : Value) : Prop := W.heap[b]? = some (.cells #[u, v] t (0, 0))
theorem Obj2.lt {W : World} {b : Nat} {t : TypeId} {u v : Value} (h : Obj2 W b t u v) : b < W.heap.size := by
  rcases Nat.lt_or_ge b W.heap.size with q | q
  · exact q
  · have h' : W.heap[b]? = some (.cells #[u, v] t (0, 0)) := h
    rw [Array.getElem?_eq_none q] at h'; cases h'
theorem Obj2.cells {W : World} {b : Nat} {t : TypeId} {u v : Value} (h : Obj2 W b t u v) : W.cell? ⟨b, 0, none⟩ = some u ∧ W.cell? ⟨b, 1, none⟩ = some v ∧ W.frozen? ⟨b, 0, none⟩ = false ∧ W.frozen? ⟨b, 1, none⟩ = false := by
  have h' : W.heap[b]? = some (.cells #[u, v] t (0, 0)) := h
  simp [World.cell?, World.frozen?, h']
theorem Obj2.new (W : World) (t : TypeId) (u v : Value) : Obj2 (W.alloc (.cells #[u, v] t)) W.heap.size t u v := by
  show (W.heap.push _)[W.heap.size]? = _
  simp
theorem Obj2.on {W W' : World} {b : Nat} {t : TypeId} {u v : Value} (h : Obj2 W b t u v) (q : Below W.heap.size W W') : Obj2 W' b t u v := (q.block b h.lt).trans h
theorem Obj2.kept {W W' : World} {row : Option Nat} {b : Nat} {t : TypeId} {u v : Value} (h : Obj2 W b t u v) (hg : W.grownBy W' row) (hne : some b ≠ row) : Obj2 W' b t u v := (hg.block b h.lt hne).trans h
theorem Obj2.set {W : World} {b : Nat} {t : TypeId} {u v : Value} (h : Obj2 W b t u v) (v' : Value) : Obj2 (W.setCell ⟨b, 1, none⟩ v') b t u v' := by
  have h' : W.heap[b]? = some (.cells #[u, v] t (0, 0)) := h
  obtain ⟨hlt, hk⟩ := Array.getElem?_eq_some_iff.1 h'
  show (W.heap.modify b _)[b]? = _
  rw [Array.getElem?_eq_getElem (by rw [Array.size_modify]; exact hlt), Array.getElem_modify_self, hk]
  rfl
/-- An append to a row of the call's own, as a step of a region that draws its order. -/
theorem step_append_own {P : Program} {ops : Array Oper} {o : Oper} {a : Act} {w : World} {K : Act → World → Prop} {Q : Exit → Act → World → Prop} {E : Prop}
    (hg : o.guard = none) (s x : Operand) (t : TypeId) (hop : o.op = Op.call { callee := Callee.builtin Builtin.append, args := #[s, x], argTypes := #[t, t] })
    (base : Nat) (e : TypeId) (i : TypeInfo) (z : Value) (size bytes : Nat) (h1 : P.underlying t = some (.slice e)) (h2 : P.info? e = some i) (h3 : i.zero = some z) (h4 : i.size = size) (h5 : i.bytes = bytes) (h6 : z.cells.size = size) (h7 : 0 < size)
    (v : Value) (k : Nat) (xs : List Value) (hs : a.eval s = v) (hown : w.ownsRow base e size v k xs) (ad : Addr) (m c : Nat) (news : List Value) (hx : a.eval x = .slice (some ad) m c) (hn : news.length = m * size)
    (hc : ∀ j u, news[j]? = some u → w.cell? (ad.add j) = some u) (h1c : ∀ u ∈ news, u.oneCell' = true) (b1 : k + m ≤ maxLen) (b2 : (k + m) * bytes ≤ 140737488355328) (b3 : base ≤ w.heap.size)
    (hK : ∀ v' w', w'.ownsRow base e size v' (k + m) (xs ++ news) → w.grownBy w' v.ownBlock → K (a.put o.dst v') w') :
    if Region.wanted o (yielded ops a.tmps) = true then Oper.wp P o a w K Q else E := by
  have hw : Region.wanted o (yielded ops a.tmps) = true := by simp [Region.wanted, hg]
  rw [if_pos hw]
  obtain ⟨v', w', hrun, r1, r2, _, _⟩ := run_append_own_at (P := P) w base t o.type e i z size bytes h1 h2 h3 h4 h5 h6 h7 v k xs hown ad m c news hn hc h1c b1 b2 b3
  unfold Oper.wp
  simp [execOp, hop, resolve, invoke, builtin, hs, hx, hrun, Result.andThen]
  exact hK v' w' r1 r2
theorem cell_two_new (W : World) (u v : Value) (t : TypeId) : ∀ j q, [u, v][j]? = some q → (W.alloc (.cells #[u, v] t)).cell? ((⟨W.heap.size, 0, none⟩ : Addr).add j) = some q := by
  intro j q hj
  match j, hj with
  | 0, hj => simp at hj; subst hj; simp [Addr.add]
  | 1, hj => simp at hj; subst hj; simp [Addr.add]
theorem grown_set1 (W : World) (b : Nat) (v : Value) : W.grownBy (W.setCell ⟨b, 1, none⟩ v) (some b) :=
  ⟨rfl, rfl, rfl, by simp, fun k _ hk => Below.heap_setCell _ _ _ k (fun e => hk (by rw [e]))⟩
/-- What an append to a list in a struct's second cell leaves, and the store behind it. -/
theorem field_step {w1 wr X w3 : World} {B : Nat} {t e : TypeId} {u vs v' : Value} {sz k k' : Nat} {xs xs' : List Value} (hB : Below B w1 wr) (hs : w1.heap.size = B) (hO : wr.ownsRow (B + 1) e sz vs k xs) (hX : Below wr.heap.size wr X) (hb : Obj2 wr B t u vs)
    (R1 : w3.ownsRow (B + 1) e sz v' k' xs') (R2 : X.grownBy w3 vs.ownBlock) :
    Obj2 w3 B t u vs ∧ (∀ b o, b < B → w3.cell? ⟨b, o, none⟩ = w1.cell? ⟨b, o, none⟩) ∧ Obj2 (w3.setCell ⟨B, 1, none⟩ v') B t u v' ∧ (w3.setCell ⟨B, 1, none⟩ v').ownsRow (B + 1) e sz v' k' xs' ∧ Below B w1 (w3.setCell ⟨B, 1, none⟩ v') := by
  have hr : ∀ g, vs.ownBlock = some g → B + 1 ≤ g := fun g hg => (hO.lt g hg).1
  have o3 : Obj2 w3 B t u vs := (hb.on hX).kept R2 (fun q => by have := hr B q.symm; omega)
  have sz := hX.size
  have szr := hB.size
  have b3 : Below B w1 w3 := (hB.trans (hX.mono (by omega))).grown R2 (by omega) (fun g hg => by have := hr g hg; omega)
  refine ⟨o3, fun b o hlt => b3.cell (p := ⟨b, o, none⟩) hlt, o3.set v', ?_, b3.setCell (Nat.le_refl _) _⟩
  refine R1.kept (grown_set1 w3 B v') ?_
  rcases hv : v'.ownBlock with _ | g
  · exact Or.inl rfl
  · refine Or.inr (fun q => ?_)
    have := (R1.lt g hv).1
    have : g = B := by simpa using q
    omega
theorem own_shape {W : World} {base : Nat} {e : TypeId} {sz n : Nat} {v : Value} {xs : List Value} (h : W.ownsRow base e sz v (n + 1) xs) : ∃ g cap, v = .slice (some ⟨g, 0, none⟩) (n + 1) cap := by
  rcases h.2 with ⟨_, h0⟩ | ⟨g, cap, cur, hv, _⟩
  · omega
  · exact ⟨g, cap, hv⟩
end Zo
end Go.Proofs.YtkmmncebekcegaaGreatDoor
