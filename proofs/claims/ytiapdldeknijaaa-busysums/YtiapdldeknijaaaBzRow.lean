/-
  What is proved here: rows of stretches that a call owns or reads; what builtin append and clear and a store do to them (laws over the translation's types).
-/
import Derived.Test.YtiapdldeknijaaaBzPure
import Derived.Test.YtiapdldeknijaaaOwK2
import Derived.Deep.MidRow
namespace Go.Proofs.Ytiapdldeknijaaa.Bz
open Go.RowKit

/-- A stretch as cells, and as a value. -/
def encB (x : Bz) : List Value := [.int .i64 x.1, .int .i64 x.2]
abbrev agB (x : Bz) : Value := .agg #[.int .i64 x.1, .int .i64 x.2]
theorem encB_len (x : Bz) : (encB x).length = 2 := rfl
theorem encB_one (x : Bz) : ∀ u ∈ encB x, u.oneCell' = true := fun u hu => by
  simp [encB] at hu
  rcases hu with rfl | rfl <;> rfl
/-- A slice reads as a list of stretches; a row of them is owned. -/
abbrev Rb (w : World) (v : Value) (l : List Bz) : Prop := RowK encB w v l
abbrev Ob (w : World) (n0 : Nat) (v : Value) (l : List Bz) : Prop := w.ownsRow n0 28 2 v l.length (l.flatMap encB)
theorem Ob.rb {w : World} {n0 : Nat} {v : Value} {l : List Bz} (h : Ob w n0 v l) : Rb w v l := own_rowK (enc := encB) (k := 2) encB_len (by decide) h
theorem info_bz : (Try.prog.info? 28).map (fun i => (i.zero, i.size, i.bytes)) = some (some (.agg #[.int .i64 0, .int .i64 0]), 2, 16) := by kernel_rfl
theorem flatB_len (l : List Bz) : (l.flatMap encB).length = l.length * 2 := flat_len encB 2 encB_len l
theorem flatB_at (l : List Bz) (i : Nat) (h : i < l.length) : (l.flatMap encB)[i * 2]? = some (.int .i64 (l.getD i (0, 0)).1) ∧ (l.flatMap encB)[i * 2 + 1]? = some (.int .i64 (l.getD i (0, 0)).2) :=
  ⟨flat_at encB 2 encB_len l i 0 h (by decide), flat_at encB 2 encB_len l i 1 h (by decide)⟩
/-- A stretch in a row that is read. -/
theorem rb_at {w : World} {a : Option Addr} {n cap : Nat} {l : List Bz} (h : Rb w (.slice a n cap) l) {i : Nat} (hi : i < l.length) : ∃ b off, a = some ⟨b, off, none⟩ ∧ n = l.length ∧ w.cell? ⟨b, off + i * 2, none⟩ = some (.int .i64 (l.getD i (0, 0)).1) ∧ w.cell? ⟨b, off + i * 2 + 1, none⟩ = some (.int .i64 (l.getD i (0, 0)).2) := by
  obtain ⟨a', c', e, hc⟩ := h
  simp only [Value.slice.injEq] at e
  obtain ⟨rfl, rfl, rfl⟩ := e
  rcases hc with rfl | ⟨b, off, rfl, hc⟩
  · simp at hi
  · obtain ⟨q1, q2⟩ := flatB_at l i hi
    exact ⟨b, off, rfl, rfl, hc _ _ q1, by have := hc _ _ q2; rwa [← Nat.add_assoc] at this⟩
theorem cell_in {w : World} {b o : Nat} {v : Value} (h : w.cell? ⟨b, o, none⟩ = some v) : b < w.heap.size := World.block_lt_of_cell? _ _ h
/-- What is appended to a row of one's own. -/
theorem appB_own {w : World} {n0 : Nat} {v vo : Value} {l mo : List Bz} (h : Ob w n0 v l) (hm : Rb w vo mo) (hn : n0 ≤ w.heap.size) (hl : l.length + mo.length ≤ 1000000000) :
    ∃ v' w', (∀ ty, (Builtin.append_ #[22, 22] ty #[v, vo]).run Try.prog w = .ok v' w') ∧ Ob w' n0 v' (l ++ mo) ∧ w.grownBy w' v.ownBlock := by
  obtain ⟨i0, hi, hz0, hz1, hz2⟩ := info_parts info_bz
  obtain ⟨a, cap, rfl, hc⟩ := hm
  have own : ∀ (v' : Value) (w' : World), w'.ownsRow n0 28 2 v' (l.length + mo.length) (l.flatMap encB ++ mo.flatMap encB) → Ob w' n0 v' (l ++ mo) := fun v' w' q => by
    show w'.ownsRow n0 28 2 v' (l ++ mo).length ((l ++ mo).flatMap encB)
    rw [List.length_append, List.flatMap_append]; exact q
  have some_ : ∀ ad : Addr, (∀ j u, (mo.flatMap encB)[j]? = some u → w.cell? (ad.add j) = some u) → ∃ (v' : Value) (w' : World), (∀ ty, (Builtin.append_ #[22, 22] ty #[v, .slice (some ad) mo.length cap]).run Try.prog w = .ok v' w') ∧ Ob w' n0 v' (l ++ mo) ∧ w.grownBy w' v.ownBlock := fun ad hcell => by
    obtain ⟨v', w', hr, r1, r2, _, _⟩ := run_append_own_at (P := Try.prog) w n0 22 22 28 i0 (.agg #[.int .i64 0, .int .i64 0]) 2 16 Try.underlying22 hi hz0 hz1 hz2 rfl (by decide) v l.length (l.flatMap encB) h ad mo.length cap (mo.flatMap encB) (flat_len encB 2 encB_len mo) hcell (fun u hu' => by
      obtain ⟨x, _, hx⟩ := List.mem_flatMap.1 hu'
      exact encB_one x u hx) (by unfold maxLen; omega) (by omega) hn
    exact ⟨v', w', fun ty => hr, own v' w' r1, r2⟩
  rcases hc with rfl | ⟨b, off, rfl, hc⟩
  · rcases a with _ | ad
    · refine ⟨v, w, fun ty => ?_, own v w (by simpa using h), ⟨rfl, rfl, rfl, Nat.le_refl _, fun _ _ _ => rfl⟩⟩
      rcases h.2 with ⟨rfl, h0⟩ | ⟨g, cp, cur, rfl, _, hg, hnc, _, _, _⟩
      · simp [Builtin.append_, run_underlying Try.underlying22, sizeOf, typeInfo, hi, Builtin.lenOf, Builtin.firstCells]
      · simp [Builtin.append_, run_underlying Try.underlying22, sizeOf, typeInfo, hi, Builtin.lenOf, Builtin.firstCells, hnc, storeCells]
    · exact some_ ad (fun j u hu' => by simp at hu')
  · exact some_ ⟨b, off, none⟩ (fun j u hu' => by rw [add_off]; exact hc j u hu')
theorem appB_any {w : World} {n0 : Nat} {v vo : Value} {l mo : List Bz} (h : Ob w n0 v l) (hm : Rb w vo mo) (hn : n0 ≤ w.heap.size) (hl : l.length + mo.length ≤ 1000000000) :
    ∃ v' w', (∀ ty, (Builtin.append_ #[22, 22] ty #[v, vo]).run Try.prog w = .ok v' w') ∧ Ob w' n0 v' (l ++ mo) ∧ Below n0 w w' := by
  obtain ⟨v', w', hr, r1, r2⟩ := appB_own h hm hn hl
  exact ⟨v', w', hr, r1, (Below.refl n0 w).grown r2 hn (fun j hj => (h.lt j hj).1)⟩
theorem wpl_app {w : World} {ops : Array Oper} {rest : List Oper} {o : Oper} {a : Act} {Q : Exit → Act → World → Prop} (hgd : o.guard = none) (s x : Operand) (t : TypeId)
    (ho : o.op = .call { callee := .builtin .append, args := #[s, x], argTypes := #[t, t] }) (v vo v' : Value) (w' : World) (hs : a.eval s = v) (hx : a.eval x = vo)
    (hr : ∀ ty, (Builtin.append_ #[t, t] ty #[v, vo]).run Try.prog w = .ok v' w') (h : wpList Try.prog ops Q rest (a.put o.dst v') w') : wpList Try.prog ops Q (o :: rest) a w := by
  refine wpList_plain hgd fun K hK => ?_
  unfold Oper.wp execOp
  simp only [ho, resolve, invoke, builtin, Sem.run_bind, Sem.run_pure, Result.andThen_ok, List.map_toArray, List.map_cons, List.map_nil, hs, hx, hr]
  exact hK _ _ h
/-- A stretch in a block of its own. -/
def BBx (W : World) (b : Nat) (x : Bz) : Prop := W.cell? ⟨b, 0, none⟩ = some (.int .i64 x.1) ∧ W.cell? ⟨b, 1, none⟩ = some (.int .i64 x.2)
theorem BBx.on {W W' : World} {b : Nat} {x : Bz} (h : BBx W b x) (q : Below W.heap.size W W') : BBx W' b x := by
  have l := cell_in h.1
  exact ⟨(q.cell (p := ⟨b, 0, none⟩) l).trans h.1, (q.cell (p := ⟨b, 1, none⟩) l).trans h.2⟩
theorem BBx.new (W : World) (x : Bz) (t : TypeId) : BBx (W.alloc (.cells #[.int .i64 x.1, .int .i64 x.2] t)) W.heap.size x := ⟨by simp, by simp⟩
/-- A row of one stretch that has just been made. -/
theorem rb_one (W : World) (x : Bz) : Rb (W.alloc (.cells #[.int .i64 x.1, .int .i64 x.2] 28)) (.slice (some ⟨W.heap.size, 0, none⟩) 1 1) [x] := by
  refine ⟨_, _, rfl, Or.inr ⟨W.heap.size, 0, rfl, fun j u hu => ?_⟩⟩
  have hj : j < 2 := (List.getElem?_eq_some_iff.1 hu).1
  rcases (by omega : j = 0 ∨ j = 1) with rfl | rfl
  · simp [encB] at hu
    subst hu
    simp
  · simp [encB] at hu
    subst hu
    simp
theorem below_one (w : World) (o : Obj) : Below w.heap.size w (w.alloc o) := (Below.refl _ _).alloc (Nat.le_refl _) _
/-- What a row that is owned lies in. -/
theorem Ob.blk {w : World} {n0 n cap g : Nat} {l : List Bz} (h : Ob w n0 (.slice (some ⟨g, 0, none⟩) n cap) l) : n = l.length ∧ n0 ≤ g ∧ l.length ≤ cap ∧ ∃ cur : Array Value, w.heap[g]? = some (.cells cur 28 (0, 0)) ∧ cap ≤ maxLen ∧ cur.size = cap * 2 ∧ cur.toList.take (l.length * 2) = l.flatMap encB := by
  rcases h.2 with ⟨e, _⟩ | ⟨g', cap', cur, e, hb, hg, hn, hm, hs, ht⟩
  · cases e
  · simp only [Value.slice.injEq, Option.some.injEq, Addr.mk.injEq] at e
    obtain ⟨⟨rfl, _⟩, rfl, rfl⟩ := e
    exact ⟨rfl, hb, hn, cur, hg, hm, hs, ht⟩
theorem Ob.open {w : World} {n0 : Nat} {v : Value} {l : List Bz} (h : Ob w n0 v l) : (v = .slice none 0 0 ∧ l = []) ∨ ∃ g cap, v = .slice (some ⟨g, 0, none⟩) l.length cap := by
  rcases h.2 with ⟨e, h0⟩ | ⟨g, cap, cur, e, _⟩
  · exact Or.inl ⟨e, List.eq_nil_of_length_eq_zero h0⟩
  · exact Or.inr ⟨g, cap, e⟩
theorem Ob.cell {w : World} {n0 n cap g : Nat} {l : List Bz} (h : Ob w n0 (.slice (some ⟨g, 0, none⟩) n cap) l) {i : Nat} (hi : i < l.length) : w.cell? ⟨g, i * 2, none⟩ = some (.int .i64 (l.getD i (0, 0)).1) ∧ w.cell? ⟨g, i * 2 + 1, none⟩ = some (.int .i64 (l.getD i (0, 0)).2) := by
  obtain ⟨b, off, e, _, c1, c2⟩ := rb_at h.rb hi
  simp only [Option.some.injEq, Addr.mk.injEq] at e
  obtain ⟨rfl, rfl, _⟩ := e
  rw [Nat.zero_add] at c1 c2
  exact ⟨c1, c2⟩
theorem Ob.there {w : World} {n0 n cap g : Nat} {l : List Bz} (h : Ob w n0 (.slice (some ⟨g, 0, none⟩) n cap) l) {o m : Nat} (hi : o + m ≤ l.length * 2) : w.there g o m := fun j hj => by
  obtain ⟨_, _, hc, cur, hg, _, hs, _⟩ := h.blk
  have : l.length * 2 ≤ cap * 2 := Nat.mul_le_mul_right 2 hc
  refine ⟨?_, by simp [World.frozen?, hg]⟩
  have e : o + j < cur.size := by omega
  simp [World.cell?, hg, e]
theorem setCells_heap (g : Nat) (T : TypeId) : ∀ (vs : List Value) (o : Nat) (cur : Array Value) (w : World), w.heap[g]? = some (.cells cur T (0, 0)) → o + vs.length ≤ cur.size →
    (w.setCells g o vs).heap[g]? = some (.cells (cur.toList.take o ++ vs ++ cur.toList.drop (o + vs.length)).toArray T (0, 0))
  | [], o, cur, w, h, hl => by
    simp only [World.setCells, List.append_nil, List.length_nil, Nat.add_zero, List.take_append_drop]
    simpa using h
  | v :: r, o, cur, w, h, hl => by
    have hs : o < cur.size := by simp at hl; omega
    have h1 : (w.setCell ⟨g, o, none⟩ v).heap[g]? = some (.cells (cur.setIfInBounds o v) T (0, 0)) := by
      simp [World.setCell, Array.getElem?_modify, h]
    have ih := setCells_heap g T r (o + 1) (cur.setIfInBounds o v) _ h1 (by simp at hl ⊢; omega)
    simp only [World.setCells]
    rw [ih]
    have e1 : (cur.setIfInBounds o v).toList.take (o + 1) = cur.toList.take o ++ [v] := by
      rw [Array.toList_setIfInBounds, List.take_succ_eq_append_getElem (by simpa using hs), List.take_set_of_le (Nat.le_refl _)]
      simp
    have e2 : (cur.setIfInBounds o v).toList.drop (o + 1 + r.length) = cur.toList.drop (o + (v :: r).length) := by
      rw [Array.toList_setIfInBounds, List.drop_set_of_lt (by omega), List.length_cons, show o + 1 + r.length = o + (r.length + 1) by omega]
    rw [e1, e2]
    simp
/-- A store into a row that is owned. -/
theorem Ob.put {w : World} {n0 n cap g : Nat} {l : List Bz} (h : Ob w n0 (.slice (some ⟨g, 0, none⟩) n cap) l) {i : Nat} (hi : i < l.length) (x : Bz) : Ob (w.setCells g (i * 2) (encB x)) n0 (.slice (some ⟨g, 0, none⟩) n cap) (l.set i x) := by
  obtain ⟨rfl, hb, hc, cur, hg, hm, hs, ht⟩ := h.blk
  have hcap : l.length * 2 ≤ cap * 2 := Nat.mul_le_mul_right 2 hc
  have q := setCells_heap g 28 (encB x) (i * 2) cur w hg (by rw [encB_len]; omega)
  refine ⟨by rw [flatB_len], Or.inr ⟨g, cap, _, by rw [List.length_set], hb, q, by rw [List.length_set]; exact hc, hm, ?_, ?_⟩⟩
  · simp [encB]
    omega
  · rw [List.length_set]
    show ((cur.toList.take (i * 2) ++ encB x ++ cur.toList.drop (i * 2 + 2)).take (l.length * 2)) = _
    have e1 : cur.toList.take (i * 2) = (l.take i).flatMap encB := by
      have := congrArg (List.take (i * 2)) ht
      rw [List.take_take, Nat.min_eq_left (by omega)] at this
      rw [this]
      have e : l.flatMap encB = (l.take i).flatMap encB ++ (l.drop i).flatMap encB := by rw [← List.flatMap_append, List.take_append_drop]
      rw [e, List.take_append_of_le_length (by rw [flatB_len, List.length_take]; omega), List.take_of_length_le (by rw [flatB_len, List.length_take]; omega)]
    have e2 : (cur.toList.drop (i * 2 + 2)).take (l.length * 2 - (i * 2 + 2)) = (l.drop (i + 1)).flatMap encB := by
      rw [← List.drop_take, ht]
      have e : l.flatMap encB = (l.take (i + 1)).flatMap encB ++ (l.drop (i + 1)).flatMap encB := by rw [← List.flatMap_append, List.take_append_drop]
      rw [e, List.drop_append_of_le_length (by rw [flatB_len, List.length_take]; omega), List.drop_eq_nil_of_le (by rw [flatB_len, List.length_take]; omega), List.nil_append]
    rw [List.set_eq_take_append_cons_drop, if_pos hi, List.flatMap_append, List.flatMap_cons, List.take_append, List.take_of_length_le (by rw [List.length_append, List.length_take, encB_len]; simp; omega), e1, List.append_assoc]
    congr 2
    rw [← e2]
    congr 1
    rw [List.length_append, flatB_len, encB_len, List.length_take]
    omega
theorem Ob.cut {w : World} {n0 n cap g : Nat} {l : List Bz} (h : Ob w n0 (.slice (some ⟨g, 0, none⟩) n cap) l) {i : Nat} (hi : i ≤ l.length) (vs : List Value) (hv : i * 2 + vs.length ≤ l.length * 2) : Ob (w.setCells g (i * 2) vs) n0 (.slice (some ⟨g, 0, none⟩) i cap) (l.take i) := by
  obtain ⟨rfl, hb, hc, cur, hg, hm, hs, ht⟩ := h.blk
  have hcap : l.length * 2 ≤ cap * 2 := Nat.mul_le_mul_right 2 hc
  have q := setCells_heap g 28 vs (i * 2) cur w hg (by omega)
  have li : (l.take i).length = i := by rw [List.length_take]; omega
  refine ⟨by rw [flatB_len], Or.inr ⟨g, cap, _, by rw [li], hb, q, by rw [li]; omega, hm, ?_, ?_⟩⟩
  · simp
    omega
  · rw [li]
    show ((cur.toList.take (i * 2) ++ vs ++ cur.toList.drop (i * 2 + vs.length)).take (i * 2)) = _
    rw [List.append_assoc, List.take_append_of_le_length (by simp; omega), List.take_take, Nat.min_self]
    have := congrArg (List.take (i * 2)) ht
    rw [List.take_take, Nat.min_eq_left (by omega)] at this
    rw [this]
    have e : l.flatMap encB = (l.take i).flatMap encB ++ (l.drop i).flatMap encB := by rw [← List.flatMap_append, List.take_append_drop]
    rw [e, List.take_append_of_le_length (by rw [flatB_len, List.length_take]; omega), List.take_of_length_le (by rw [flatB_len, List.length_take]; omega)]
theorem grown_set (g : Nat) : ∀ (vs : List Value) (o : Nat) (w : World) (n0 : Nat), n0 ≤ g → n0 ≤ w.heap.size → Below n0 w (w.setCells g o vs)
  | [], _, w, n0, _, _ => Below.refl n0 w
  | v :: r, o, w, n0, hg, hn => by
    have a : Below n0 w (w.setCell ⟨g, o, none⟩ v) := ⟨rfl, rfl, rfl, by simp, fun k hk => Below.heap_setCell w ⟨g, o, none⟩ v k (by show k ≠ g; omega)⟩
    exact a.trans (grown_set g r (o + 1) _ n0 hg (Nat.le_trans hn a.size))
/-- clear, at stretches. -/
def zrs (n : Nat) : List Value := List.replicate (n * 2) (.int .i64 0)
theorem zrs_len (n : Nat) : (zrs n).length = n * 2 := by simp [zrs]
theorem run_clearB (w : World) (ty : TypeId) (b o n c : Nat) (hn : 0 < n) (ht : w.there b o (n * 2)) :
    (Builtin.clear_ #[22] ty #[.slice (some ⟨b, o, none⟩) n c]).run Try.prog w = .ok (.tuple #[]) (w.setCells b o (zrs n)) := by
  have hv : ∀ w, (zeroValue 28).run Try.prog w = .ok (.agg #[.int .i64 0, .int .i64 0]) w := fun _ => by kernel_rfl
  have hzc : (Builtin.zeroCells (Value.agg #[.int .i64 0, .int .i64 0]).cells n).toList = zrs n := by
    show (Builtin.zeroCells #[.int .i64 0, .int .i64 0] n).toList = _
    simp only [Builtin.zeroCells, Array.toList_map, zrs]
    apply List.ext_getElem
    · simp
    · intro i h1 h2
      have : i % 2 < 2 := Nat.mod_lt _ (by decide)
      rcases (by omega : i % 2 = 0 ∨ i % 2 = 1) with q | q <;> simp [q]
  have hst := run_storeCells_cells (P := Try.prog) b o (zrs n) 0 w (fun j hj => by rw [zrs_len] at hj; simpa using (ht j hj).1) (fun j hj => by rw [zrs_len] at hj; simpa using (ht j hj).2) (fun u hu => by unfold zrs at hu; rw [List.eq_of_mem_replicate hu]; rfl)
  simp only [Nat.add_zero] at hst
  obtain ⟨m, rfl⟩ : ∃ m, n = m + 1 := ⟨n - 1, by omega⟩
  simp [Builtin.clear_, run_underlying Try.underlying22, hv, hzc, hst]
/-- A stretch is stored into a row. -/
theorem bz_store {ops : Array Oper} {rest : List Oper} {op : Oper} {a : Act} {W : World} {Q : Exit → Act → World → Prop} (hgd : op.guard = none) (x y : Operand) (ho : op.op = .store 28 x y) (hd : op.dst = none)
    (b o : Nat) (c : Bz) (hx : a.eval x = .pointer (some ⟨b, o, none⟩)) (hy : a.eval y = agB c) (ht : W.there b o 2)
    (h : wpList Try.prog ops Q rest a (W.setCells b o (encB c))) : wpList Try.prog ops Q (op :: rest) a W := by
  refine wpList_store_mid hgd 28 x y ho b o #[.int .i64 c.1, .int .i64 c.2] hx hy ht (by kernel_rfl) (by simp [Value.oneCell']) ?_
  rw [hd]
  exact h
end Go.Proofs.Ytiapdldeknijaaa.Bz
