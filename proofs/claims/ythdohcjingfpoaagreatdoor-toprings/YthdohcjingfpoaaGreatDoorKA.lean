/-
  What is proved here: rows of rings of any names that a call owns: a store into one, what is cut off of one.
  What is proved here: rows of numbers, pairs, alarms and rings read by their cells; what slices.Clone answers at them (contracts over the translation).
  What is proved here: what slices.IndexFunc and slices.DeleteFunc answer at rings and any function that holds one value (contracts over the translation).
-/
import Derived.Test.YthdohcjingfpoaaGreatDoorQB
import Derived.Test.YthdohcjingfpoaaGreatDoorBF
import Derived.Deep.MidRow
import Derived.Test.YthdohcjingfpoaaGreatDoorRL
import Derived.Test.YthdohcjingfpoaaGreatDoorBQ
import Derived.Maps.AppendAt
import Derived.Shelf.Abstract
import Derived.BigQuiet
import Derived.Lib.QuietBelow
namespace Go.Proofs.YthdohcjingfpoaaGreatDoor.Qu
open Go.RowKit

/-- What a row that is owned lies in. -/
theorem Ow.blk {w : World} {n0 n cap g : Nat} {l : List Rq} (h : Ow w n0 (.slice (some ⟨g, 0, none⟩) n cap) l) : n = l.length ∧ n0 ≤ g ∧ l.length ≤ cap ∧ ∃ cur : Array Value, w.heap[g]? = some (.cells cur 45 (0, 0)) ∧ cap ≤ maxLen ∧ cur.size = cap * 5 ∧ cur.toList.take (l.length * 5) = l.flatMap encQ := by
  rcases h.2 with ⟨e, _⟩ | ⟨g', cap', cur, e, hb, hg, hn, hm, hs, ht⟩
  · cases e
  · simp only [Value.slice.injEq, Option.some.injEq, Addr.mk.injEq] at e
    obtain ⟨⟨rfl, _⟩, rfl, rfl⟩ := e
    exact ⟨rfl, hb, hn, cur, hg, hm, hs, ht⟩
theorem Ow.there {w : World} {n0 n cap g : Nat} {l : List Rq} (h : Ow w n0 (.slice (some ⟨g, 0, none⟩) n cap) l) {o m : Nat} (hi : o + m ≤ l.length * 5) : w.there g o m := fun j hj => by
  obtain ⟨_, _, hc, cur, hg, _, hs, _⟩ := h.blk
  have : l.length * 5 ≤ cap * 5 := Nat.mul_le_mul_right 5 hc
  refine ⟨?_, by simp [World.frozen?, hg]⟩
  have e : o + j < cur.size := by omega
  simp [World.cell?, hg, e]
theorem setCells_heap (g : Nat) (T : TypeId) : ∀ (vs : List Value) (o : Nat) (cur : Array Value) (w : World), w.heap[g]? = some (.cells cur T (0, 0)) → o + vs.length ≤ cur.size →
    (w.setCells g o vs).heap[g]? = some (.cells (cur.toList.take o ++ vs ++ cur.toList.drop (o + vs.length)).toArray T (0, 0))
  | [], o, cur, w, h, hl => by
    simp only [World.setCells, List.append_nil, List.length_nil, Nat.add_zero, List.take_append_drop]
    simpa using h
  | v :: r, o, cur, w, h, hl => by
    have hs : o < cur.size := by simp at hl; omega
    have h1 : (w.setCell ⟨g, o, none⟩ v).heap[g]? = some (.cells (cur.setIfInBounds o v) T (0, 0)) := by
      simp [World.setCell, Array.getElem?_modify, h]
    have ih := setCells_heap g T r (o + 1) (cur.setIfInBounds o v) _ h1 (by simp at hl ⊢; omega)
    simp only [World.setCells]
    rw [ih]
    have e1 : (cur.setIfInBounds o v).toList.take (o + 1) = cur.toList.take o ++ [v] := by
      rw [Array.toList_setIfInBounds, List.take_succ_eq_append_getElem (by simpa using hs), List.take_set_of_le (Nat.le_refl _)]
      simp
    have e2 : (cur.setIfInBounds o v).toList.drop (o + 1 + r.length) = cur.toList.drop (o + (v :: r).length) := by
      rw [Array.toList_setIfInBounds, List.drop_set_of_lt (by omega), List.length_cons, show o + 1 + r.length = o + (r.length + 1) by omega]
    rw [e1, e2]
    simp
/-- A store into a row that is owned. -/
theorem Ow.put {w : World} {n0 n cap g : Nat} {l : List Rq} (h : Ow w n0 (.slice (some ⟨g, 0, none⟩) n cap) l) {i : Nat} (hi : i < l.length) (x : Rq) : Ow (w.setCells g (i * 5) (encQ x)) n0 (.slice (some ⟨g, 0, none⟩) n cap) (l.set i x) := by
  obtain ⟨rfl, hb, hc, cur, hg, hm, hs, ht⟩ := h.blk
  have hcap : l.length * 5 ≤ cap * 5 := Nat.mul_le_mul_right 5 hc
  have q := setCells_heap g 45 (encQ x) (i * 5) cur w hg (by rw [encQ_len]; omega)
  refine ⟨by rw [flatQ_len], Or.inr ⟨g, cap, _, by rw [List.length_set], hb, q, by rw [List.length_set]; exact hc, hm, ?_, ?_⟩⟩
  · simp [encQ]
    omega
  · rw [List.length_set]
    show ((cur.toList.take (i * 5) ++ encQ x ++ cur.toList.drop (i * 5 + 5)).take (l.length * 5)) = _
    have e1 : cur.toList.take (i * 5) = (l.take i).flatMap encQ := by
      have := congrArg (List.take (i * 5)) ht
      rw [List.take_take, Nat.min_eq_left (by omega)] at this
      rw [this]
      have e : l.flatMap encQ = (l.take i).flatMap encQ ++ (l.drop i).flatMap encQ := by rw [← List.flatMap_append, List.take_append_drop]
      rw [e, List.take_append_of_le_length (by rw [flatQ_len, List.length_take]; omega), List.take_of_length_le (by rw [flatQ_len, List.length_take]; omega)]
    have e2 : (cur.toList.drop (i * 5 + 5)).take (l.length * 5 - (i * 5 + 5)) = (l.drop (i + 1)).flatMap encQ := by
      rw [← List.drop_take, ht]
      have e : l.flatMap encQ = (l.take (i + 1)).flatMap encQ ++ (l.drop (i + 1)).flatMap encQ := by rw [← List.flatMap_append, List.take_append_drop]
      rw [e, List.drop_append_of_le_length (by rw [flatQ_len, List.length_take]; omega), List.drop_eq_nil_of_le (by rw [flatQ_len, List.length_take]; omega), List.nil_append]
    have e3 : ((l.take i).flatMap encQ ++ encQ x).length = i * 5 + 5 := by rw [List.length_append, flatQ_len, encQ_len, List.length_take]; omega
    rw [e1, List.take_append, e3, List.take_of_length_le (l := (l.take i).flatMap encQ ++ encQ x) (by rw [e3]; omega), e2, List.set_eq_take_append_cons_drop, if_pos hi, List.flatMap_append, List.flatMap_cons, List.append_assoc]
theorem Ow.cut {w : World} {n0 n cap g : Nat} {l : List Rq} (h : Ow w n0 (.slice (some ⟨g, 0, none⟩) n cap) l) {i : Nat} (hi : i ≤ l.length) (vs : List Value) (hv : i * 5 + vs.length ≤ l.length * 5) : Ow (w.setCells g (i * 5) vs) n0 (.slice (some ⟨g, 0, none⟩) i cap) (l.take i) := by
  obtain ⟨rfl, hb, hc, cur, hg, hm, hs, ht⟩ := h.blk
  have hcap : l.length * 5 ≤ cap * 5 := Nat.mul_le_mul_right 5 hc
  have q := setCells_heap g 45 vs (i * 5) cur w hg (by omega)
  have li : (l.take i).length = i := by rw [List.length_take]; omega
  refine ⟨by rw [flatQ_len], Or.inr ⟨g, cap, _, by rw [li], hb, q, by rw [li]; omega, hm, ?_, ?_⟩⟩
  · simp
    omega
  · rw [li]
    show ((cur.toList.take (i * 5) ++ vs ++ cur.toList.drop (i * 5 + vs.length)).take (i * 5)) = _
    rw [List.append_assoc, List.take_append_of_le_length (by simp; omega), List.take_take, Nat.min_self]
    have := congrArg (List.take (i * 5)) ht
    rw [List.take_take, Nat.min_eq_left (by omega)] at this
    rw [this]
    have e : l.flatMap encQ = (l.take i).flatMap encQ ++ (l.drop i).flatMap encQ := by rw [← List.flatMap_append, List.take_append_drop]
    rw [e, List.take_append_of_le_length (by rw [flatQ_len, List.length_take]; omega), List.take_of_length_le (by rw [flatQ_len, List.length_take]; omega)]
/-- What is written into a block changes that one alone. -/
theorem grown_cells (g : Nat) : ∀ (vs : List Value) (o : Nat) (w : World), w.grownBy (w.setCells g o vs) (some g)
  | [], _, w => grown_refl w _
  | v :: r, o, w => by
    have a : w.grownBy (w.setCell ⟨g, o, none⟩ v) (some g) := ⟨rfl, rfl, rfl, by simp, fun k _ hk => Below.heap_setCell w ⟨g, o, none⟩ v k (fun e => hk (by rw [e]))⟩
    exact grown_tr a (grown_cells g r (o + 1) _)
theorem Ow.cell {w : World} {n0 n cap g : Nat} {l : List Rq} (h : Ow w n0 (.slice (some ⟨g, 0, none⟩) n cap) l) {i : Nat} (hi : i < l.length) : At5 w g (i * 5) (l.getD i zq) := by
  obtain ⟨rfl, _⟩ := h.blk
  have := Rd.at h.rd hi
  rwa [Nat.zero_add] at this
theorem run_clearQ (w : World) (ty : TypeId) (b o n c : Nat) (hn : 0 < n) (ht : w.there b o (n * 5)) :
    (Builtin.clear_ #[41] ty #[.slice (some ⟨b, o, none⟩) n c]).run Tryz.prog w = .ok (.tuple #[]) (w.setCells b o (zrs n)) := by
  have hv : ∀ w, (zeroValue 45).run Tryz.prog w = .ok (.agg zr5.toArray) w := fun _ => by kernel_rfl
  have hst := run_storeCells_cells (P := Tryz.prog) b o (zrs n) 0 w (fun j hj => by rw [zrs_len] at hj; simpa using (ht j hj).1) (fun j hj => by rw [zrs_len] at hj; simpa using (ht j hj).2) (zrs_one n)
  simp only [Nat.add_zero] at hst
  obtain ⟨m, rfl⟩ : ∃ m, n = m + 1 := ⟨n - 1, by omega⟩
  simp [Builtin.clear_, run_underlying Tryz.underlying41, hv, zero_cells, hst]
/-- A ring is stored into a row. -/
theorem rq_store {ops : Array Oper} {rest : List Oper} {op : Oper} {a : Act} {W : World} {Q : Exit → Act → World → Prop} (hgd : op.guard = none) (x y : Operand) (ho : op.op = .store 45 x y) (hd : op.dst = none)
    (b o : Nat) (c : Rq) (hx : a.eval x = .pointer (some ⟨b, o, none⟩)) (hy : a.eval y = agQ c) (ht : W.there b o 5)
    (h : wpList Tryz.prog ops Q rest a (W.setCells b o (encQ c))) : wpList Tryz.prog ops Q (op :: rest) a W := by
  refine wpList_store_mid hgd 45 x y ho b o #[.int .i64 c.1, .string c.2.1, .int .i64 c.2.2.1, .int .i64 c.2.2.2.1, .int .i64 c.2.2.2.2] hx hy ht (by kernel_rfl) (by simp [Value.oneCell']) ?_
  rw [hd]
  exact h
end Go.Proofs.YthdohcjingfpoaaGreatDoor.Qu
namespace Go.Proofs.YthdohcjingfpoaaGreatDoor.Dk
open Go.RowKit Qu

def enc1 (x : Int) : List Value := [.int .i64 x]
def enc2 (x : Int × Int) : List Value := [.int .i64 x.1, .int .i64 x.2]
def enc4 (x : Int × Bool × Int × Int) : List Value := [.int .i64 x.1, .bool x.2.1, .int .i64 x.2.2.1, .int .i64 x.2.2.2]
theorem enc1_one (x : Int) : ∀ u ∈ enc1 x, u.oneCell' = true := fun u hu => by
  simp [enc1] at hu
  rw [hu]; rfl
theorem enc2_one (x : Int × Int) : ∀ u ∈ enc2 x, u.oneCell' = true := fun u hu => by
  simp [enc2] at hu
  rcases hu with rfl | rfl <;> rfl
theorem enc4_one (x : Int × Bool × Int × Int) : ∀ u ∈ enc4 x, u.oneCell' = true := fun u hu => by
  simp [enc4] at hu
  rcases hu with rfl | rfl | rfl | rfl <;> rfl
theorem cells_row {α : Type} [Inhabited α] (enc : α → List Value) (k : Nat) (hk : ∀ x, (enc x).length = k) (k0 : 0 < k) {w : World} {b off : Nat} {l : List α} (hc : ∀ i, i < l.length → ∀ c u, (enc (l.getD i default))[c]? = some u → w.cell? ⟨b, off + i * k + c, none⟩ = some u) :
    ∀ j u, (l.flatMap enc)[j]? = some u → w.cell? ⟨b, off + j, none⟩ = some u := fun j u hu => by
  have hj : j < l.length * k := by have := (List.getElem?_eq_some_iff.1 hu).1; rwa [flat_len enc k hk] at this
  have hd : j / k < l.length := Nat.div_lt_of_lt_mul (by rwa [Nat.mul_comm] at hj)
  have e : j / k * k + j % k = j := by rw [Nat.mul_comm]; exact Nat.div_add_mod j k
  have q := flat_at enc k hk l (j / k) (j % k) hd (Nat.mod_lt _ k0)
  rw [e, hu] at q
  have := hc (j / k) hd (j % k) u q.symm
  rwa [Nat.add_assoc, e] at this
theorem row_cells {α : Type} [Inhabited α] (enc : α → List Value) (k : Nat) (hk : ∀ x, (enc x).length = k) {w : World} {b off : Nat} {l : List α} (h : ∀ j u, (l.flatMap enc)[j]? = some u → w.cell? ⟨b, off + j, none⟩ = some u) {i : Nat} (hi : i < l.length) {c : Nat} {u : Value} (hu : (enc (l.getD i default))[c]? = some u) : w.cell? ⟨b, off + i * k + c, none⟩ = some u := by
  have hc : c < k := by have := (List.getElem?_eq_some_iff.1 hu).1; rwa [hk] at this
  have q := flat_at enc k hk l i c hi hc
  rw [hu] at q
  have := h _ _ q
  rwa [← Nat.add_assoc] at this
theorem ints_row {w : World} {v : Value} {l : List Int} (h : Ints w v l) : RowK enc1 w v l := by
  obtain ⟨a, cap, rfl, h⟩ := h
  refine ⟨a, cap, rfl, h.imp id ?_⟩
  rintro ⟨b, off, rfl, hc⟩
  refine ⟨b, off, rfl, cells_row enc1 1 (fun _ => rfl) (by decide) (fun i hi c u hu => ?_)⟩
  have hc1 : c < 1 := (List.getElem?_eq_some_iff.1 hu).1
  obtain rfl : c = 0 := by omega
  have e : u = .int .i64 (l.getD i default) := by simpa [enc1] using hu.symm
  rw [e, Nat.mul_one, Nat.add_zero]
  exact hc i hi
theorem row_ints {w : World} {v : Value} {l : List Int} (h : RowK enc1 w v l) : Ints w v l := by
  obtain ⟨a, cap, rfl, h⟩ := h
  refine ⟨a, cap, rfl, h.imp id ?_⟩
  rintro ⟨b, off, rfl, hc⟩
  refine ⟨b, off, rfl, fun i hi => ?_⟩
  have := row_cells enc1 1 (fun _ => rfl) hc hi (c := 0) (u := .int .i64 (l.getD i default)) rfl
  rwa [Nat.mul_one, Nat.add_zero] at this
theorem nths_row {w : World} {v : Value} {l : List (Int × Int)} (h : Nths w v l) : RowK enc2 w v l := by
  obtain ⟨a, cap, rfl, h⟩ := h
  refine ⟨a, cap, rfl, h.imp id ?_⟩
  rintro ⟨b, off, rfl, hc⟩
  refine ⟨b, off, rfl, cells_row enc2 2 (fun _ => rfl) (by decide) (fun i hi c u hu => ?_)⟩
  have hc1 : c < 2 := (List.getElem?_eq_some_iff.1 hu).1
  rcases (by omega : c = 0 ∨ c = 1) with rfl | rfl
  · have e : u = .int .i64 (l.getD i default).1 := by simpa [enc2] using hu.symm
    rw [e, Nat.add_zero]
    exact (hc i hi).1
  · have e : u = .int .i64 (l.getD i default).2 := by simpa [enc2] using hu.symm
    rw [e]
    exact (hc i hi).2
theorem row_nths {w : World} {v : Value} {l : List (Int × Int)} (h : RowK enc2 w v l) : Nths w v l := by
  obtain ⟨a, cap, rfl, h⟩ := h
  refine ⟨a, cap, rfl, h.imp id ?_⟩
  rintro ⟨b, off, rfl, hc⟩
  exact ⟨b, off, rfl, fun i hi => ⟨row_cells enc2 2 (fun _ => rfl) hc hi (c := 0) (u := .int .i64 (l.getD i default).1) rfl, row_cells enc2 2 (fun _ => rfl) hc hi (c := 1) (u := .int .i64 (l.getD i default).2) rfl⟩⟩
theorem alms_row {w : World} {v : Value} {l : List (Int × Bool × Int × Int)} (h : Alms w v l) : RowK enc4 w v l := by
  obtain ⟨a, cap, rfl, h⟩ := h
  refine ⟨a, cap, rfl, h.imp id ?_⟩
  rintro ⟨b, off, rfl, hc⟩
  refine ⟨b, off, rfl, cells_row enc4 4 (fun _ => rfl) (by decide) (fun i hi c u hu => ?_)⟩
  have hc1 : c < 4 := (List.getElem?_eq_some_iff.1 hu).1
  rcases (by omega : c = 0 ∨ c = 1 ∨ c = 2 ∨ c = 3) with rfl | rfl | rfl | rfl
  · have e : u = .int .i64 (l.getD i default).1 := by simpa [enc4] using hu.symm
    rw [e, Nat.add_zero]
    exact (hc i hi).1
  · have e : u = .bool (l.getD i default).2.1 := by simpa [enc4] using hu.symm
    rw [e]
    exact (hc i hi).2.1
  · have e : u = .int .i64 (l.getD i default).2.2.1 := by simpa [enc4] using hu.symm
    rw [e]
    exact (hc i hi).2.2.1
  · have e : u = .int .i64 (l.getD i default).2.2.2 := by simpa [enc4] using hu.symm
    rw [e]
    exact (hc i hi).2.2.2
theorem row_alms {w : World} {v : Value} {l : List (Int × Bool × Int × Int)} (h : RowK enc4 w v l) : Alms w v l := by
  obtain ⟨a, cap, rfl, h⟩ := h
  refine ⟨a, cap, rfl, h.imp id ?_⟩
  rintro ⟨b, off, rfl, hc⟩
  exact ⟨b, off, rfl, fun i hi => ⟨row_cells enc4 4 (fun _ => rfl) hc hi (c := 0) (u := .int .i64 (l.getD i default).1) rfl, row_cells enc4 4 (fun _ => rfl) hc hi (c := 1) (u := .bool (l.getD i default).2.1) rfl, row_cells enc4 4 (fun _ => rfl) hc hi (c := 2) (u := .int .i64 (l.getD i default).2.2.1) rfl, row_cells enc4 4 (fun _ => rfl) hc hi (c := 3) (u := .int .i64 (l.getD i default).2.2.2) rfl⟩⟩
theorem rd_row {w : World} {v : Value} {M : List Rq} (h : Rd w v M) : RowK encQ w v M := by
  obtain ⟨a, cap, rfl, h⟩ := h
  refine ⟨a, cap, rfl, h.imp id ?_⟩
  rintro ⟨b, off, rfl, hc⟩
  refine ⟨b, off, rfl, cells_row encQ 5 (fun _ => rfl) (by decide) (fun i hi c u hu => ?_)⟩
  have hc1 : c < 5 := (List.getElem?_eq_some_iff.1 hu).1
  rw [hc i hi c hc1]
  exact hu
theorem info_cint : (Tryz.prog.info? 3).map (fun i => (i.zero, i.size, i.bytes)) = some (some (.int .i64 0), 1, 8) := by kernel_rfl
set_option maxRecDepth 100000 in
theorem cln_int (v : Value) (l : List Int) (w : World) (hv : RowK enc1 w v l) (hl : l.length ≤ 1000000) :
    Calls Tryz.prog 106 #[v] w fun e w' => ∃ u, e = .returned u ∧ w'.ownsRow w.heap.size 3 1 u l.length (l.flatMap enc1) ∧ Below w.heap.size w w' := by
  obtain ⟨a, cap, rfl, hc⟩ := id hv
  rcases a with _ | ad
  · have l0 : l = [] := by
      rcases hc with q | ⟨b, off, q, _⟩
      · exact q
      · cases q
    subst l0
    have hn : ∀ w, (binOp .eql 34 (.slice none 0 cap) (.slice none 0 0)).run Tryz.prog w = .ok (.bool true) w := fun w => Lib.run_eql_slice_nil w _ _ none _ _ _ _ Tryz.underlying34
    go_enter Tryz.func106, Tryz.ntmps106
    go_wp2
    go_ret
    exact ⟨_, rfl, World.ownsRow_nil _ _ _ _, Below.refl _ _⟩
  · obtain ⟨i0, hi, hz0, hz1, hz2⟩ := info_parts info_cint
    have b1 : Below w.heap.size w (w.alloc (.cells #[] 3)) := below_alloc w _
    have O0 : (w.alloc (.cells #[] 3)).ownsRow w.heap.size 3 1 (.slice (some ⟨w.heap.size, 0, none⟩) 0 0) 0 [] :=
      ⟨rfl, Or.inr ⟨w.heap.size, 0, #[], rfl, Nat.le_refl _, heap_alloc_new w _, Nat.le_refl _, Nat.zero_le _, rfl, rfl⟩⟩
    have hcell : ∀ j u, (l.flatMap enc1)[j]? = some u → (w.alloc (.cells #[] 3)).cell? (ad.add j) = some u := fun j u hu => by
      rcases hc with rfl | ⟨b, off, e, hc⟩
      · simp at hu
      · cases e
        rw [add_off]
        have q := hc j u hu
        exact (b1.cell (p := ⟨b, off + j, none⟩) (cell_in q)).trans q
    obtain ⟨v2, w2, hr, o2, b2, _⟩ := run_append_own_at (P := Tryz.prog) (w.alloc (.cells #[] 3)) w.heap.size 34 34 3 i0 (.int .i64 0) 1 8 Tryz.underlying34 hi hz0 hz1 hz2 rfl (by decide) _ 0 [] O0 ad l.length cap (l.flatMap enc1) (flat_len enc1 1 (fun _ => rfl) l) hcell (fun u hu => by
      obtain ⟨x, _, hx⟩ := List.mem_flatMap.1 hu
      exact enc1_one x u hx) (by unfold maxLen; omega) (by omega) (by rw [World.size_alloc]; omega)
    rw [List.nil_append, Nat.zero_add] at o2
    have AP : Hid (∀ ty, (Builtin.append_ #[34, 34] ty #[.slice (some ⟨w.heap.size, 0, none⟩) 0 0, .slice (some ad) l.length cap]).run Tryz.prog (w.alloc (.cells #[] 3)) = .ok v2 w2) := Lib.hid (fun _ => hr)
    have O2 := Lib.hid o2
    have B2 := Lib.hid (b1.trans ((Below.refl w.heap.size _).grown b2 (by rw [World.size_alloc]; omega) (fun j hj => (O0.lt j hj).1)))
    have hn : ∀ w, (binOp .eql 34 (.slice (some ad) l.length cap) (.slice none 0 0)).run Tryz.prog w = .ok (.bool false) w := fun w => Lib.run_eql_slice_nil w _ _ (some ad) _ _ _ _ Tryz.underlying34
    clear hv hc O0 hr o2 b2 b1 hi hz0 hz1 hz2 hcell
    go_enter Tryz.func106, Tryz.ntmps106
    go_wp2_with (at_builtin; refine wpl_app _ rfl _ _ 34 34 rfl _ _ rfl rfl (AP.out _) ?_)
    go_ret
    exact ⟨_, rfl, O2.out, B2.out⟩
theorem info_cnth : (Tryz.prog.info? 158).map (fun i => (i.zero, i.size, i.bytes)) = some (some (.agg #[.int .i64 0, .int .i64 0]), 2, 16) := by kernel_rfl
set_option maxRecDepth 100000 in
theorem cln_nth (v : Value) (l : List (Int × Int)) (w : World) (hv : RowK enc2 w v l) (hl : l.length ≤ 1000000) :
    Calls Tryz.prog 107 #[v] w fun e w' => ∃ u, e = .returned u ∧ w'.ownsRow w.heap.size 158 2 u l.length (l.flatMap enc2) ∧ Below w.heap.size w w' := by
  obtain ⟨a, cap, rfl, hc⟩ := id hv
  rcases a with _ | ad
  · have l0 : l = [] := by
      rcases hc with q | ⟨b, off, q, _⟩
      · exact q
      · cases q
    subst l0
    have hn : ∀ w, (binOp .eql 35 (.slice none 0 cap) (.slice none 0 0)).run Tryz.prog w = .ok (.bool true) w := fun w => Lib.run_eql_slice_nil w _ _ none _ _ _ _ Tryz.underlying35
    go_enter Tryz.func107, Tryz.ntmps107
    go_wp2
    go_ret
    exact ⟨_, rfl, World.ownsRow_nil _ _ _ _, Below.refl _ _⟩
  · obtain ⟨i0, hi, hz0, hz1, hz2⟩ := info_parts info_cnth
    have b1 : Below w.heap.size w (w.alloc (.cells #[] 158)) := below_alloc w _
    have O0 : (w.alloc (.cells #[] 158)).ownsRow w.heap.size 158 2 (.slice (some ⟨w.heap.size, 0, none⟩) 0 0) 0 [] :=
      ⟨rfl, Or.inr ⟨w.heap.size, 0, #[], rfl, Nat.le_refl _, heap_alloc_new w _, Nat.le_refl _, Nat.zero_le _, rfl, rfl⟩⟩
    have hcell : ∀ j u, (l.flatMap enc2)[j]? = some u → (w.alloc (.cells #[] 158)).cell? (ad.add j) = some u := fun j u hu => by
      rcases hc with rfl | ⟨b, off, e, hc⟩
      · simp at hu
      · cases e
        rw [add_off]
        have q := hc j u hu
        exact (b1.cell (p := ⟨b, off + j, none⟩) (cell_in q)).trans q
    obtain ⟨v2, w2, hr, o2, b2, _⟩ := run_append_own_at (P := Tryz.prog) (w.alloc (.cells #[] 158)) w.heap.size 35 35 158 i0 (.agg #[.int .i64 0, .int .i64 0]) 2 16 Tryz.underlying35 hi hz0 hz1 hz2 rfl (by decide) _ 0 [] O0 ad l.length cap (l.flatMap enc2) (flat_len enc2 2 (fun _ => rfl) l) hcell (fun u hu => by
      obtain ⟨x, _, hx⟩ := List.mem_flatMap.1 hu
      exact enc2_one x u hx) (by unfold maxLen; omega) (by omega) (by rw [World.size_alloc]; omega)
    rw [List.nil_append, Nat.zero_add] at o2
    have AP : Hid (∀ ty, (Builtin.append_ #[35, 35] ty #[.slice (some ⟨w.heap.size, 0, none⟩) 0 0, .slice (some ad) l.length cap]).run Tryz.prog (w.alloc (.cells #[] 158)) = .ok v2 w2) := Lib.hid (fun _ => hr)
    have O2 := Lib.hid o2
    have B2 := Lib.hid (b1.trans ((Below.refl w.heap.size _).grown b2 (by rw [World.size_alloc]; omega) (fun j hj => (O0.lt j hj).1)))
    have hn : ∀ w, (binOp .eql 35 (.slice (some ad) l.length cap) (.slice none 0 0)).run Tryz.prog w = .ok (.bool false) w := fun w => Lib.run_eql_slice_nil w _ _ (some ad) _ _ _ _ Tryz.underlying35
    clear hv hc O0 hr o2 b2 b1 hi hz0 hz1 hz2 hcell
    go_enter Tryz.func107, Tryz.ntmps107
    go_wp2_with (at_builtin; refine wpl_app _ rfl _ _ 35 35 rfl _ _ rfl rfl (AP.out _) ?_)
    go_ret
    exact ⟨_, rfl, O2.out, B2.out⟩
theorem info_cchg : (Tryz.prog.info? 135).map (fun i => (i.zero, i.size, i.bytes)) = some (some (.agg #[.int .i64 0, .int .i64 0]), 2, 16) := by kernel_rfl
set_option maxRecDepth 100000 in
theorem cln_chg (v : Value) (l : List (Int × Int)) (w : World) (hv : RowK enc2 w v l) (hl : l.length ≤ 1000000) :
    Calls Tryz.prog 108 #[v] w fun e w' => ∃ u, e = .returned u ∧ w'.ownsRow w.heap.size 135 2 u l.length (l.flatMap enc2) ∧ Below w.heap.size w w' := by
  obtain ⟨a, cap, rfl, hc⟩ := id hv
  rcases a with _ | ad
  · have l0 : l = [] := by
      rcases hc with q | ⟨b, off, q, _⟩
      · exact q
      · cases q
    subst l0
    have hn : ∀ w, (binOp .eql 38 (.slice none 0 cap) (.slice none 0 0)).run Tryz.prog w = .ok (.bool true) w := fun w => Lib.run_eql_slice_nil w _ _ none _ _ _ _ Tryz.underlying38
    go_enter Tryz.func108, Tryz.ntmps108
    go_wp2
    go_ret
    exact ⟨_, rfl, World.ownsRow_nil _ _ _ _, Below.refl _ _⟩
  · obtain ⟨i0, hi, hz0, hz1, hz2⟩ := info_parts info_cchg
    have b1 : Below w.heap.size w (w.alloc (.cells #[] 135)) := below_alloc w _
    have O0 : (w.alloc (.cells #[] 135)).ownsRow w.heap.size 135 2 (.slice (some ⟨w.heap.size, 0, none⟩) 0 0) 0 [] :=
      ⟨rfl, Or.inr ⟨w.heap.size, 0, #[], rfl, Nat.le_refl _, heap_alloc_new w _, Nat.le_refl _, Nat.zero_le _, rfl, rfl⟩⟩
    have hcell : ∀ j u, (l.flatMap enc2)[j]? = some u → (w.alloc (.cells #[] 135)).cell? (ad.add j) = some u := fun j u hu => by
      rcases hc with rfl | ⟨b, off, e, hc⟩
      · simp at hu
      · cases e
        rw [add_off]
        have q := hc j u hu
        exact (b1.cell (p := ⟨b, off + j, none⟩) (cell_in q)).trans q
    obtain ⟨v2, w2, hr, o2, b2, _⟩ := run_append_own_at (P := Tryz.prog) (w.alloc (.cells #[] 135)) w.heap.size 38 38 135 i0 (.agg #[.int .i64 0, .int .i64 0]) 2 16 Tryz.underlying38 hi hz0 hz1 hz2 rfl (by decide) _ 0 [] O0 ad l.length cap (l.flatMap enc2) (flat_len enc2 2 (fun _ => rfl) l) hcell (fun u hu => by
      obtain ⟨x, _, hx⟩ := List.mem_flatMap.1 hu
      exact enc2_one x u hx) (by unfold maxLen; omega) (by omega) (by rw [World.size_alloc]; omega)
    rw [List.nil_append, Nat.zero_add] at o2
    have AP : Hid (∀ ty, (Builtin.append_ #[38, 38] ty #[.slice (some ⟨w.heap.size, 0, none⟩) 0 0, .slice (some ad) l.length cap]).run Tryz.prog (w.alloc (.cells #[] 135)) = .ok v2 w2) := Lib.hid (fun _ => hr)
    have O2 := Lib.hid o2
    have B2 := Lib.hid (b1.trans ((Below.refl w.heap.size _).grown b2 (by rw [World.size_alloc]; omega) (fun j hj => (O0.lt j hj).1)))
    have hn : ∀ w, (binOp .eql 38 (.slice (some ad) l.length cap) (.slice none 0 0)).run Tryz.prog w = .ok (.bool false) w := fun w => Lib.run_eql_slice_nil w _ _ (some ad) _ _ _ _ Tryz.underlying38
    clear hv hc O0 hr o2 b2 b1 hi hz0 hz1 hz2 hcell
    go_enter Tryz.func108, Tryz.ntmps108
    go_wp2_with (at_builtin; refine wpl_app _ rfl _ _ 38 38 rfl _ _ rfl rfl (AP.out _) ?_)
    go_ret
    exact ⟨_, rfl, O2.out, B2.out⟩
theorem info_cshf : (Tryz.prog.info? 79).map (fun i => (i.zero, i.size, i.bytes)) = some (some (.agg #[.int .i64 0, .int .i64 0]), 2, 16) := by kernel_rfl
set_option maxRecDepth 100000 in
theorem cln_shf (v : Value) (l : List (Int × Int)) (w : World) (hv : RowK enc2 w v l) (hl : l.length ≤ 1000000) :
    Calls Tryz.prog 28 #[v] w fun e w' => ∃ u, e = .returned u ∧ w'.ownsRow w.heap.size 79 2 u l.length (l.flatMap enc2) ∧ Below w.heap.size w w' := by
  obtain ⟨a, cap, rfl, hc⟩ := id hv
  rcases a with _ | ad
  · have l0 : l = [] := by
      rcases hc with q | ⟨b, off, q, _⟩
      · exact q
      · cases q
    subst l0
    have hn : ∀ w, (binOp .eql 22 (.slice none 0 cap) (.slice none 0 0)).run Tryz.prog w = .ok (.bool true) w := fun w => Lib.run_eql_slice_nil w _ _ none _ _ _ _ Tryz.underlying22
    go_enter Tryz.func28, Tryz.ntmps28
    go_wp2
    go_ret
    exact ⟨_, rfl, World.ownsRow_nil _ _ _ _, Below.refl _ _⟩
  · obtain ⟨i0, hi, hz0, hz1, hz2⟩ := info_parts info_cshf
    have b1 : Below w.heap.size w (w.alloc (.cells #[] 79)) := below_alloc w _
    have O0 : (w.alloc (.cells #[] 79)).ownsRow w.heap.size 79 2 (.slice (some ⟨w.heap.size, 0, none⟩) 0 0) 0 [] :=
      ⟨rfl, Or.inr ⟨w.heap.size, 0, #[], rfl, Nat.le_refl _, heap_alloc_new w _, Nat.le_refl _, Nat.zero_le _, rfl, rfl⟩⟩
    have hcell : ∀ j u, (l.flatMap enc2)[j]? = some u → (w.alloc (.cells #[] 79)).cell? (ad.add j) = some u := fun j u hu => by
      rcases hc with rfl | ⟨b, off, e, hc⟩
      · simp at hu
      · cases e
        rw [add_off]
        have q := hc j u hu
        exact (b1.cell (p := ⟨b, off + j, none⟩) (cell_in q)).trans q
    obtain ⟨v2, w2, hr, o2, b2, _⟩ := run_append_own_at (P := Tryz.prog) (w.alloc (.cells #[] 79)) w.heap.size 22 22 79 i0 (.agg #[.int .i64 0, .int .i64 0]) 2 16 Tryz.underlying22 hi hz0 hz1 hz2 rfl (by decide) _ 0 [] O0 ad l.length cap (l.flatMap enc2) (flat_len enc2 2 (fun _ => rfl) l) hcell (fun u hu => by
      obtain ⟨x, _, hx⟩ := List.mem_flatMap.1 hu
      exact enc2_one x u hx) (by unfold maxLen; omega) (by omega) (by rw [World.size_alloc]; omega)
    rw [List.nil_append, Nat.zero_add] at o2
    have AP : Hid (∀ ty, (Builtin.append_ #[22, 22] ty #[.slice (some ⟨w.heap.size, 0, none⟩) 0 0, .slice (some ad) l.length cap]).run Tryz.prog (w.alloc (.cells #[] 79)) = .ok v2 w2) := Lib.hid (fun _ => hr)
    have O2 := Lib.hid o2
    have B2 := Lib.hid (b1.trans ((Below.refl w.heap.size _).grown b2 (by rw [World.size_alloc]; omega) (fun j hj => (O0.lt j hj).1)))
    have hn : ∀ w, (binOp .eql 22 (.slice (some ad) l.length cap) (.slice none 0 0)).run Tryz.prog w = .ok (.bool false) w := fun w => Lib.run_eql_slice_nil w _ _ (some ad) _ _ _ _ Tryz.underlying22
    clear hv hc O0 hr o2 b2 b1 hi hz0 hz1 hz2 hcell
    go_enter Tryz.func28, Tryz.ntmps28
    go_wp2_with (at_builtin; refine wpl_app _ rfl _ _ 22 22 rfl _ _ rfl rfl (AP.out _) ?_)
    go_ret
    exact ⟨_, rfl, O2.out, B2.out⟩
theorem info_calm : (Tryz.prog.info? 32).map (fun i => (i.zero, i.size, i.bytes)) = some (some (.agg #[.int .i64 0, .bool false, .int .i64 0, .int .i64 0]), 4, 32) := by kernel_rfl
set_option maxRecDepth 100000 in
theorem cln_alm (v : Value) (l : List (Int × Bool × Int × Int)) (w : World) (hv : RowK enc4 w v l) (hl : l.length ≤ 1000000) :
    Calls Tryz.prog 109 #[v] w fun e w' => ∃ u, e = .returned u ∧ w'.ownsRow w.heap.size 32 4 u l.length (l.flatMap enc4) ∧ Below w.heap.size w w' := by
  obtain ⟨a, cap, rfl, hc⟩ := id hv
  rcases a with _ | ad
  · have l0 : l = [] := by
      rcases hc with q | ⟨b, off, q, _⟩
      · exact q
      · cases q
    subst l0
    have hn : ∀ w, (binOp .eql 33 (.slice none 0 cap) (.slice none 0 0)).run Tryz.prog w = .ok (.bool true) w := fun w => Lib.run_eql_slice_nil w _ _ none _ _ _ _ Tryz.underlying33
    go_enter Tryz.func109, Tryz.ntmps109
    go_wp2
    go_ret
    exact ⟨_, rfl, World.ownsRow_nil _ _ _ _, Below.refl _ _⟩
  · obtain ⟨i0, hi, hz0, hz1, hz2⟩ := info_parts info_calm
    have b1 : Below w.heap.size w (w.alloc (.cells #[] 32)) := below_alloc w _
    have O0 : (w.alloc (.cells #[] 32)).ownsRow w.heap.size 32 4 (.slice (some ⟨w.heap.size, 0, none⟩) 0 0) 0 [] :=
      ⟨rfl, Or.inr ⟨w.heap.size, 0, #[], rfl, Nat.le_refl _, heap_alloc_new w _, Nat.le_refl _, Nat.zero_le _, rfl, rfl⟩⟩
    have hcell : ∀ j u, (l.flatMap enc4)[j]? = some u → (w.alloc (.cells #[] 32)).cell? (ad.add j) = some u := fun j u hu => by
      rcases hc with rfl | ⟨b, off, e, hc⟩
      · simp at hu
      · cases e
        rw [add_off]
        have q := hc j u hu
        exact (b1.cell (p := ⟨b, off + j, none⟩) (cell_in q)).trans q
    obtain ⟨v2, w2, hr, o2, b2, _⟩ := run_append_own_at (P := Tryz.prog) (w.alloc (.cells #[] 32)) w.heap.size 33 33 32 i0 (.agg #[.int .i64 0, .bool false, .int .i64 0, .int .i64 0]) 4 32 Tryz.underlying33 hi hz0 hz1 hz2 rfl (by decide) _ 0 [] O0 ad l.length cap (l.flatMap enc4) (flat_len enc4 4 (fun _ => rfl) l) hcell (fun u hu => by
      obtain ⟨x, _, hx⟩ := List.mem_flatMap.1 hu
      exact enc4_one x u hx) (by unfold maxLen; omega) (by omega) (by rw [World.size_alloc]; omega)
    rw [List.nil_append, Nat.zero_add] at o2
    have AP : Hid (∀ ty, (Builtin.append_ #[33, 33] ty #[.slice (some ⟨w.heap.size, 0, none⟩) 0 0, .slice (some ad) l.length cap]).run Tryz.prog (w.alloc (.cells #[] 32)) = .ok v2 w2) := Lib.hid (fun _ => hr)
    have O2 := Lib.hid o2
    have B2 := Lib.hid (b1.trans ((Below.refl w.heap.size _).grown b2 (by rw [World.size_alloc]; omega) (fun j hj => (O0.lt j hj).1)))
    have hn : ∀ w, (binOp .eql 33 (.slice (some ad) l.length cap) (.slice none 0 0)).run Tryz.prog w = .ok (.bool false) w := fun w => Lib.run_eql_slice_nil w _ _ (some ad) _ _ _ _ Tryz.underlying33
    clear hv hc O0 hr o2 b2 b1 hi hz0 hz1 hz2 hcell
    go_enter Tryz.func109, Tryz.ntmps109
    go_wp2_with (at_builtin; refine wpl_app _ rfl _ _ 33 33 rfl _ _ rfl rfl (AP.out _) ?_)
    go_ret
    exact ⟨_, rfl, O2.out, B2.out⟩
theorem info_crng : (Tryz.prog.info? 45).map (fun i => (i.zero, i.size, i.bytes)) = some (some (.agg #[.int .i64 0, .string ⟨#[]⟩, .int .i64 0, .int .i64 0, .int .i64 0]), 5, 48) := by kernel_rfl
set_option maxRecDepth 100000 in
theorem cln_rng (v : Value) (l : List Rq) (w : World) (hv : RowK encQ w v l) (hl : l.length ≤ 1000000) :
    Calls Tryz.prog 34 #[v] w fun e w' => ∃ u, e = .returned u ∧ w'.ownsRow w.heap.size 45 5 u l.length (l.flatMap encQ) ∧ Below w.heap.size w w' := by
  obtain ⟨a, cap, rfl, hc⟩ := id hv
  rcases a with _ | ad
  · have l0 : l = [] := by
      rcases hc with q | ⟨b, off, q, _⟩
      · exact q
      · cases q
    subst l0
    have hn : ∀ w, (binOp .eql 41 (.slice none 0 cap) (.slice none 0 0)).run Tryz.prog w = .ok (.bool true) w := fun w => Lib.run_eql_slice_nil w _ _ none _ _ _ _ Tryz.underlying41
    go_enter Tryz.func34, Tryz.ntmps34
    go_wp2
    go_ret
    exact ⟨_, rfl, World.ownsRow_nil _ _ _ _, Below.refl _ _⟩
  · obtain ⟨i0, hi, hz0, hz1, hz2⟩ := info_parts info_crng
    have b1 : Below w.heap.size w (w.alloc (.cells #[] 45)) := below_alloc w _
    have O0 : (w.alloc (.cells #[] 45)).ownsRow w.heap.size 45 5 (.slice (some ⟨w.heap.size, 0, none⟩) 0 0) 0 [] :=
      ⟨rfl, Or.inr ⟨w.heap.size, 0, #[], rfl, Nat.le_refl _, heap_alloc_new w _, Nat.le_refl _, Nat.zero_le _, rfl, rfl⟩⟩
    have hcell : ∀ j u, (l.flatMap encQ)[j]? = some u → (w.alloc (.cells #[] 45)).cell? (ad.add j) = some u := fun j u hu => by
      rcases hc with rfl | ⟨b, off, e, hc⟩
      · simp at hu
      · cases e
        rw [add_off]
        have q := hc j u hu
        exact (b1.cell (p := ⟨b, off + j, none⟩) (cell_in q)).trans q
    obtain ⟨v2, w2, hr, o2, b2, _⟩ := run_append_own_at (P := Tryz.prog) (w.alloc (.cells #[] 45)) w.heap.size 41 41 45 i0 (.agg #[.int .i64 0, .string ⟨#[]⟩, .int .i64 0, .int .i64 0, .int .i64 0]) 5 48 Tryz.underlying41 hi hz0 hz1 hz2 rfl (by decide) _ 0 [] O0 ad l.length cap (l.flatMap encQ) (flat_len encQ 5 (fun _ => rfl) l) hcell (fun u hu => by
      obtain ⟨x, _, hx⟩ := List.mem_flatMap.1 hu
      exact encQ_one x u hx) (by unfold maxLen; omega) (by omega) (by rw [World.size_alloc]; omega)
    rw [List.nil_append, Nat.zero_add] at o2
    have AP : Hid (∀ ty, (Builtin.append_ #[41, 41] ty #[.slice (some ⟨w.heap.size, 0, none⟩) 0 0, .slice (some ad) l.length cap]).run Tryz.prog (w.alloc (.cells #[] 45)) = .ok v2 w2) := Lib.hid (fun _ => hr)
    have O2 := Lib.hid o2
    have B2 := Lib.hid (b1.trans ((Below.refl w.heap.size _).grown b2 (by rw [World.size_alloc]; omega) (fun j hj => (O0.lt j hj).1)))
    have hn : ∀ w, (binOp .eql 41 (.slice (some ad) l.length cap) (.slice none 0 0)).run Tryz.prog w = .ok (.bool false) w := fun w => Lib.run_eql_slice_nil w _ _ (some ad) _ _ _ _ Tryz.underlying41
    clear hv hc O0 hr o2 b2 b1 hi hz0 hz1 hz2 hcell
    go_enter Tryz.func34, Tryz.ntmps34
    go_wp2_with (at_builtin; refine wpl_app _ rfl _ _ 41 41 rfl _ _ rfl rfl (AP.out _) ?_)
    go_ret
    exact ⟨_, rfl, O2.out, B2.out⟩
end Go.Proofs.YthdohcjingfpoaaGreatDoor.Dk
namespace Go.Proofs.YthdohcjingfpoaaGreatDoor.Qu
open Go.RowKit

theorem rd_at {w : World} {a : Option Addr} {n cap : Nat} {l : List Rq} (h : Rd w (.slice a n cap) l) {i : Nat} (hi : i < l.length) : ∃ b off, a = some ⟨b, off, none⟩ ∧ At5 w b (off + i * 5) (l.getD i zq) := by
  obtain ⟨a', c', e, hc⟩ := id h
  simp only [Value.slice.injEq] at e
  obtain ⟨rfl, rfl, rfl⟩ := e
  rcases hc with rfl | ⟨b, off, rfl, hc⟩
  · simp at hi
  · exact ⟨b, off, rfl, Rd.at h hi⟩
theorem any_tk (p : Rq → Bool) (l : List Rq) (k : Nat) (h : k < l.length) (ha : (l.take k).any p = false) (hp : p (l.getD k zq) = false) : (l.take (k + 1)).any p = false := by
  rw [List.take_succ_eq_append_getElem h, List.any_append, ha, List.any_cons, List.any_nil]
  rw [List.getD_eq_getElem?_getD, List.getElem?_eq_getElem h] at hp
  simpa using hp
/-- Where the first is of which something is told. -/
def IdxA (l : List Rq) (p : Rq → Bool) (w : World) (e : Ending) (w' : World) : Prop := Below w.heap.size w w' ∧
  ((e = .returned (.int .i64 (-1)) ∧ l.any p = false) ∨ ∃ k : Nat, e = .returned (.int .i64 k) ∧ k < l.length ∧ (l.take k).any p = false ∧ p (l.getD k zq) = true)
set_option maxRecDepth 100000 in
set_option maxHeartbeats 1000000 in
theorem idxM (g : Nat) (c1 : Value) (p : Rq → Bool) (l : List Rq) (v : Value) (w : World) (eg : ∀ args w, (callFunc g args).run Tryz.prog w = .ok (.enter g args) w) (hC : ∀ c, ∀ W, Below w.heap.size w W → Calls Tryz.prog g #[agQ c, c1] W fun e w' => e = .returned (.bool (p c)) ∧ Below W.heap.size W w') (hh : Rd w v l) (hl : l.length ≤ 1000000) :
    Calls Tryz.prog 114 #[v, .func (.func g) #[] #[c1]] w (IdxA l p w) := by
  have HH := Lib.hid hh
  have HC := Lib.hid hC
  obtain ⟨a, cap, rfl, _⟩ := hh
  clear hC
  go_enter Tryz.func114, Tryz.ntmps114
  go_wp2
  go_loopw [8] (fun i wr => ∃ k : Nat, k ≤ l.length ∧ i = .int .i64 k ∧ Hid ((l.take k).any p = false) ∧ Below w.heap.size w wr) (fun i _ => l.length - (intOf i).toNat)
  case atStart => exact ⟨0, Nat.zero_le _, rfl, Lib.hid rfl, Below.refl _ _⟩
  case round =>
    obtain ⟨k, hk, rfl, HF, hB⟩ := hrel
    have HB := Lib.hid hB
    by_cases hlt : k < l.length
    · obtain ⟨b, off, rfl, k1, k2, k3, k4, k5⟩ := rd_at (HH.out.on hB) hlt
      have bl := cell_in k1
      have K := Lib.hid (HC.out (l.getD k zq) wr hB)
      obtain ⟨X, hX⟩ : ∃ X, X = l.getD k zq := ⟨_, rfl⟩
      rw [← hX] at k1 k2 k3 k4 k5 K
      have HX := Lib.hid hX
      clear hX hB
      go_wp2_with fail
      refine K.out.mono ?_
      rintro e w2 ⟨rfl, hb⟩
      have HB2 := Lib.hid (HB.out.trans (hb.mono HB.out.size))
      clear hb K k1 k2 k3 k4 k5 bl
      rcases hp : p X with _ | _
      · have N1 := Lib.hid (any_tk p l k hlt HF.out (by rw [← HX.out]; exact hp))
        go_wp2
        go_roundw
        case rel => exact ⟨k + 1, by omega, by go_num, N1, HB2.out⟩
        case measure => simp [intOf]; omega
      · have N1 : Hid (p (l.getD k zq) = true) := Lib.hid (by rw [← HX.out]; exact hp)
        go_wp2
        go_ret
        exact ⟨HB2.out, Or.inr ⟨k, rfl, hlt, HF.out, N1.out⟩⟩
    · have N1 : Hid (l.any p = false) := Lib.hid (by have := HF.out; rwa [List.take_of_length_le (by omega)] at this)
      go_wp2
      go_ret
      exact ⟨HB.out, Or.inl ⟨rfl, N1.out⟩⟩
/-- How far the deleting has come. -/
def DI (l : List Rq) (p : Rq → Bool) (j i : Nat) (d : List Rq) : Prop :=
  d.length = l.length ∧ i < j ∧ j ≤ l.length ∧ d.take i = (l.take j).filter (fun x => !p x) ∧ ∀ t, j ≤ t → d.getD t zq = l.getD t zq
theorem DI.begin {l : List Rq} {p : Rq → Bool} {k : Nat} (hk : k < l.length) (ha : (l.take k).any p = false) (hp : p (l.getD k zq) = true) : DI l p (k + 1) k l := by
  refine ⟨rfl, by omega, by omega, ?_, fun t _ => rfl⟩
  rw [List.take_succ_eq_append_getElem hk, List.filter_append]
  rw [List.getD_eq_getElem?_getD, List.getElem?_eq_getElem hk] at hp
  have hp' : p l[k] = true := hp
  rw [List.filter_eq_self.2 (fun x hx => by have := List.any_eq_false.1 ha x hx; simpa using this)]
  simp [hp']
theorem DI.skip {l : List Rq} {p : Rq → Bool} {j i : Nat} {d : List Rq} (h : DI l p j i d) (hj : j < l.length) (hp : p (l.getD j zq) = true) : DI l p (j + 1) i d := by
  obtain ⟨a, b, c, e, f⟩ := h
  refine ⟨a, by omega, by omega, ?_, fun t ht => f t (by omega)⟩
  rw [List.getD_eq_getElem?_getD, List.getElem?_eq_getElem hj] at hp
  have hp' : p l[j] = true := hp
  rw [List.take_succ_eq_append_getElem hj, List.filter_append, ← e]
  simp [hp']
theorem DI.keep {l : List Rq} {p : Rq → Bool} {j i : Nat} {d : List Rq} (h : DI l p j i d) (hj : j < l.length) (hp : p (l.getD j zq) = false) : DI l p (j + 1) (i + 1) (d.set i (l.getD j zq)) := by
  obtain ⟨a, b, c, e, f⟩ := h
  refine ⟨by simpa using a, by omega, by omega, ?_, fun t ht => ?_⟩
  · rw [List.take_succ_eq_append_getElem (l := l) hj, List.filter_append, ← e]
    rw [List.getD_eq_getElem?_getD, List.getElem?_eq_getElem hj] at hp ⊢
    have hp' : p l[j] = false := hp
    rw [List.take_succ_eq_append_getElem (by rw [List.length_set]; omega), List.take_set_of_le (Nat.le_refl _)]
    simp [hp']
  · rw [List.getD_eq_getElem?_getD, List.getElem?_set_ne (by omega), ← List.getD_eq_getElem?_getD]
    exact f t (by omega)
theorem DI.done {l : List Rq} {p : Rq → Bool} {i : Nat} {d : List Rq} (h : DI l p l.length i d) : d.take i = l.filter (fun x => !p x) := by
  have := h.2.2.2.1
  rwa [List.take_length] at this
set_option maxRecDepth 100000 in
set_option maxHeartbeats 4000000 in
theorem delQ (g : Nat) (c1 : Value) (p : Rq → Bool) (l : List Rq) (n0 : Nat) (v : Value) (w : World) (eg : ∀ args w, (callFunc g args).run Tryz.prog w = .ok (.enter g args) w) (hC : ∀ c, ∀ W, w.grownBy W v.ownBlock → Calls Tryz.prog g #[agQ c, c1] W fun e w' => e = .returned (.bool (p c)) ∧ Below W.heap.size W w') (hh : Ow w n0 v l) (hl : l.length ≤ 1000000) :
    Calls Tryz.prog 70 #[v, .func (.func g) #[] #[c1]] w fun e w' => ∃ u, e = .returned u ∧ Ow w' n0 u (l.filter (fun x => !p x)) ∧ u.ownBlock = v.ownBlock ∧ w.grownBy w' v.ownBlock := by
  have K := Lib.hid (idxM g c1 p l v w eg (fun c W hW => hC c W (grown_below hW _)) hh.rd hl)
  have HH := Lib.hid hh
  have HC := Lib.hid hC
  have FO : ∃ a cap, v = .slice a l.length cap := by
    rcases hh.open with ⟨rfl, rfl⟩ | ⟨g, cap, L, rfl, _⟩
    · exact ⟨none, 0, rfl⟩
    · exact ⟨_, cap, rfl⟩
  obtain ⟨a, cap, rfl⟩ := FO
  clear hC hh
  go_enter Tryz.func70, Tryz.ntmps70
  go_wp2_with fail
  refine K.out.mono ?_
  rintro e w1 ⟨hb1, hx⟩
  have B1 := Lib.hid hb1
  clear K hb1
  rcases hx with ⟨rfl, ha⟩ | ⟨k, rfl, hk, ha, hp⟩
  · have N : Hid (l.filter (fun x => !p x) = l) := Lib.hid (List.filter_eq_self.2 (fun x hx => by have := List.any_eq_false.1 ha x hx; simpa using this))
    clear ha
    go_wp2
    go_ret
    exact ⟨_, rfl, by rw [N.out]; exact ow_below HH.out B1.out, rfl, grown_below B1.out _⟩
  · have D0 := Lib.hid (DI.begin hk ha hp)
    have nk : ((k : Int) == -1) = false := by simp
    clear ha hp
    obtain ⟨gb, rfl⟩ : ∃ gb, a = some ⟨gb, 0, none⟩ := by
      rcases HH.out.open with ⟨_, h0⟩ | ⟨g, c2, L, e2, _⟩
      · rw [h0] at hk; simp at hk
      · simp only [Value.slice.injEq] at e2
        exact ⟨g, e2.1⟩
    have cl := HH.out.blk.2.2.1
    have O1 := Lib.hid (ow_below HH.out B1.out)
    have G1 : Hid (w.grownBy w1 (some gb)) := Lib.hid (grown_below B1.out _)
    replace HC : Hid (∀ c, ∀ W, w.grownBy W (some gb) → Calls Tryz.prog g #[agQ c, c1] W fun e w' => e = .returned (.bool (p c)) ∧ Below W.heap.size W w') := HC
    go_wp2_with fail
    go_loopw [5, 6, 7] (fun iv jv _ wr => ∃ (i j : Nat) (d : List Rq), iv = .int .i64 i ∧ jv = .int .i64 j ∧ DI l p j i d ∧ Ow wr n0 (.slice (some ⟨gb, 0, none⟩) l.length cap) d ∧ w.grownBy wr (some gb)) (fun _ jv _ _ => l.length - (intOf jv).toNat)
    case atStart => exact ⟨k, k + 1, l, rfl, by go_num, D0.out, O1.out, G1.out⟩
    case round =>
      obtain ⟨i, j, d, rfl, rfl, hD, hh, hB⟩ := hrel
      have ij := hD.2.1
      have jl := hD.2.2.1
      have dl := hD.1
      have HD := Lib.hid hD
      have HHd := Lib.hid hh
      have HB := Lib.hid hB
      clear hD hh hB D0 B1 O1 G1
      by_cases hlt : j < l.length
      · obtain ⟨k1, k2, k3, k4, k5⟩ := HHd.out.cell (i := j) (by omega)
        rw [HD.out.2.2.2.2 j (Nat.le_refl _)] at k1 k2 k3 k4 k5
        have bw := cell_in k1
        obtain ⟨X, hX⟩ : ∃ X, X = l.getD j zq := ⟨_, rfl⟩
        rw [← hX] at k1 k2 k3 k4 k5
        have HX := Lib.hid hX
        have T3 := QBx.new wr X 45
        have b3 := below_alloc wr (.cells #[.int .i64 X.1, .string X.2.1, .int .i64 X.2.2.1, .int .i64 X.2.2.2.1, .int .i64 X.2.2.2.2] 45)
        obtain ⟨W3, hW3⟩ : ∃ W3, W3 = wr.alloc (.cells #[.int .i64 X.1, .string X.2.1, .int .i64 X.2.2.1, .int .i64 X.2.2.2.1, .int .i64 X.2.2.2.2] 45) := ⟨_, rfl⟩
        rw [← hW3] at T3 b3
        have HW3 := Lib.hid hW3
        have HT3 := Lib.hid T3
        have B3 := Lib.hid b3
        have K := Lib.hid (HC.out X W3 (grown_tr HB.out (grown_below b3 _)))
        clear hX hW3 T3 b3
        go_upto_region 8 with fail
        rw [← HW3.out]
        clear HW3 k1 k2 k3 k4 k5
        obtain ⟨t0, t1, t2, t3, t4⟩ := HT3.out
        have tl := cell_in t0
        go_wp2_with fail
        clear t0 t1 t2 t3 t4 tl
        refine K.out.mono ?_
        rintro e w4 ⟨rfl, hb⟩
        have B4 := Lib.hid (B3.out.trans (hb.mono B3.out.size))
        obtain ⟨t0, t1, t2, t3, t4⟩ := HT3.out.on hb
        have tl := cell_in t0
        clear hb K B3 HT3
        have H4 : Hid (Ow w4 n0 (.slice (some ⟨gb, 0, none⟩) l.length cap) d) := Lib.hid (ow_below HHd.out B4.out)
        have A4 := Lib.hid (grown_tr HB.out (grown_below B4.out _))
        rcases hp : p X with _ | _
        · have N1 := Lib.hid (HD.out.keep hlt (by rw [← HX.out]; exact hp))
          rw [← HX.out] at N1
          have SH := Lib.hid (H4.out.put (i := i) (by omega) X)
          have SA := Lib.hid (grown_tr A4.out (grown_cells gb (encQ X) (i * 5) w4))
          have TH := Lib.hid (H4.out.there (o := i * 5) (m := 5) (by omega))
          go_wp2_with (refine rq_store ?s1 (.tmp 33) (.tmp 32) ?s2 ?s9 gb (i * 5) X ?s3 ?s4 ?s6 ?s5; (case s1 => rfl); (case s2 => rfl); (case s9 => rfl); (case s3 => rfl); (case s4 => rfl); (case s6 => exact TH.out))
          go_roundw
          case rel => exact ⟨i + 1, j + 1, d.set i X, by go_num, by go_num, N1.out, SH.out, SA.out⟩
          case measure => simp [intOf]; omega
        · have N1 := Lib.hid (HD.out.skip hlt (by rw [← HX.out]; exact hp))
          go_wp2
          go_roundw
          case rel => exact ⟨i, j + 1, d, rfl, by go_num, N1.out, H4.out, A4.out⟩
          case measure => simp [intOf]; omega
      · obtain rfl : j = l.length := by omega
        have hcl : ∀ ty, (Builtin.clear_ #[41] ty #[.slice (some ⟨gb, i * 5, none⟩) (l.length - i) (cap - i)]).run Tryz.prog wr = .ok (.tuple #[]) (wr.setCells gb (i * 5) (zrs (l.length - i))) :=
          fun ty => run_clearQ wr ty gb (i * 5) _ _ (by omega) (HHd.out.there (by omega))
        have S := HHd.out.cut (i := i) (by omega) (zrs (l.length - i)) (by rw [zrs_len]; omega)
        have N := HD.out.done
        rw [N] at S
        have SH := Lib.hid S
        have SA := Lib.hid (grown_tr HB.out (grown_cells gb (zrs (l.length - i)) (i * 5) wr))
        clear S N
        go_wp2
        go_ret
        exact ⟨_, rfl, SH.out, rfl, SA.out⟩
end Go.Proofs.YthdohcjingfpoaaGreatDoor.Qu
