/-
  What is proved here: words on rows that a call owns, of elements of several cells each: what is sorted in place is owned still.
  What is proved here: rows of elements of several cells each, read, and appended to a row that a call owns.
-/
import Derived.Test.YthdohcjingfpoaaGreatDoorBF
import Derived.Shelf.GgSortFunc.RowK
import Derived.Sort.Grow
import Derived.Maps.AppendAt
namespace Go.Proofs.YthdohcjingfpoaaGreatDoor
open Go.RowKit

theorem flat_len {α : Type} (enc : α → List Value) (k : Nat) (hk : ∀ x, (enc x).length = k) : ∀ xs : List α, (xs.flatMap enc).length = xs.length * k
  | [] => by simp
  | a :: r => by rw [List.flatMap_cons, List.length_append, hk, flat_len enc k hk r, List.length_cons, Nat.succ_mul]; omega
theorem flat_at {α : Type} [Inhabited α] (enc : α → List Value) (k : Nat) (hk : ∀ x, (enc x).length = k) : ∀ (xs : List α) (i c : Nat), i < xs.length → c < k → (xs.flatMap enc)[i * k + c]? = (enc (xs.getD i default))[c]?
  | a :: r, 0, c, _, hc => by
    rw [List.flatMap_cons, Nat.zero_mul, Nat.zero_add, List.getElem?_append_left (by rw [hk]; exact hc)]
    rfl
  | a :: r, i + 1, c, h, hc => by
    have ih := flat_at enc k hk r i c (by simpa using h) hc
    rw [List.flatMap_cons, List.getElem?_append_right (by rw [hk, Nat.succ_mul]; omega), hk]
    have e : (i + 1) * k + c - k = i * k + c := by rw [Nat.succ_mul]; omega
    rw [e, ih]
    rfl
theorem getK {α : Type} [Inhabited α] (l : List α) (j : Nat) (h : j < l.length) : l.toArray[j]! = l.getD j default := by
  rw [getElem!_pos _ j (by simpa using h), List.getD_eq_getElem?_getD, List.getElem?_eq_getElem h]; simp
/-- What lies in a row that is owned. -/
theorem own_openK {α : Type} [Inhabited α] (enc : α → List Value) (k : Nat) (hk : ∀ x, (enc x).length = k) (k0 : 0 < k) {t : TypeId} {w : World} {n0 n : Nat} {v : Value} {l : List α} (h : w.ownsRow n0 t k v n (l.flatMap enc)) :
    n = l.length ∧ ((v = .slice none 0 0 ∧ l = []) ∨ ∃ g cap, v = .slice (some ⟨g, 0, none⟩) l.length cap ∧ n0 ≤ g ∧ g < w.heap.size ∧ l.length ≤ cap ∧ Sort.HoldsK enc k w g 0 l.toArray) := by
  have hl : n = l.length := by
    have := h.1
    rw [flat_len enc k hk] at this
    exact (Nat.eq_of_mul_eq_mul_right k0 this).symm
  subst hl
  refine ⟨rfl, ?_⟩
  rcases h.2 with ⟨hv, h0⟩ | ⟨g, cap, cur, hv, hb, hg, hc, hm, hs, ht⟩
  · exact Or.inl ⟨hv, List.eq_nil_of_length_eq_zero h0⟩
  · refine Or.inr ⟨g, cap, hv, hb, ?_, hc, fun j hj => ⟨?_, by simp [World.frozen?, hg]⟩⟩
    · rcases Nat.lt_or_ge g w.heap.size with q | q
      · exact q
      · rw [Array.getElem?_eq_none q] at hg; cases hg
    · have hadd : (⟨g, 0, none⟩ : Addr).add j = ⟨g, 0 + j, none⟩ := by unfold Addr.add; split <;> simp_all
      have hj' : j < l.length * k := by simpa using hj
      have j1 : j / k < l.length := (Nat.div_lt_iff_lt_mul k0).2 hj'
      have j2 := Nat.mod_lt j k0
      have q := flat_at enc k hk l (j / k) (j % k) j1 j2
      have ej : j / k * k + j % k = j := by rw [Nat.mul_comm]; exact Nat.div_add_mod j k
      rw [ej] at q
      have e2 : (enc (l.getD (j / k) default))[j % k]? = some (enc (l.getD (j / k) default))[j % k]! := by
        rw [getElem!_pos _ (j % k) (by rw [hk]; exact j2)]
        exact List.getElem?_eq_getElem _
      have c1 := h.cells (g := g) (by rw [hv]; rfl) j _ (q.trans e2)
      rw [hadd] at c1
      rw [c1, Sort.get_flatK _ _ _ _ (by simpa using hj'), getK l (j / k) j1]
      rfl
/-- A row that was laid anew in place is owned still. -/
theorem own_putK {α : Type} [Inhabited α] (enc : α → List Value) (k : Nat) (hk : ∀ x, (enc x).length = k) (k0 : 0 < k) {t : TypeId} {w : World} {n0 g cap q n : Nat} {ys : List Value} (h : w.ownsRow n0 t k (.slice (some ⟨g, 0, none⟩) n cap) n ys) (d : Array α) (hd : d.size = n) :
    (Sort.putRowK enc k (Sort.ahead w q) g 0 d).ownsRow n0 t k (.slice (some ⟨g, 0, none⟩) n cap) n (d.toList.flatMap enc) := by
  rcases h.2 with ⟨e0, _⟩ | ⟨g', cap', cur, e0, hb, hg, hn, hm, hs, ht⟩
  · cases e0
  · injection e0 with e1 _ e3
    injection e1 with e1
    injection e1 with e1
    subst e1; subst e3
    refine ⟨by rw [flat_len enc k hk]; simp [hd], .inr ⟨g, cap, Sort.putCells id 0 (Sort.flatK enc k d) cur, rfl, hb, ?_, hn, hm, by simpa [Sort.putCells] using hs, ?_⟩⟩
    · simp [Sort.putRowK, Sort.putRow, Sort.mapBlock, Sort.ahead, Array.getElem?_modify, hg, Sort.onCells]
    · apply List.ext_getElem?
      intro j
      rw [List.getElem?_take, Array.getElem?_toList]
      by_cases hj : j < n * k
      · have hcap : n * k ≤ cap * k := Nat.mul_le_mul_right k hn
        have hjc : j < cur.size := by rw [hs]; omega
        have j1 : j / k < d.size := (Nat.div_lt_iff_lt_mul k0).2 (by rw [hd]; exact hj)
        have j2 := Nat.mod_lt j k0
        have ej : j / k * k + j % k = j := by rw [Nat.mul_comm]; exact Nat.div_add_mod j k
        have q' := flat_at enc k hk d.toList (j / k) (j % k) (by simpa using j1) j2
        rw [ej] at q'
        have e2 : d.toList.getD (j / k) default = d[j / k]! := by
          rw [List.getD_eq_getElem?_getD, List.getElem?_eq_getElem (by simpa using j1), getElem!_pos d (j / k) j1]; simp
        rw [e2] at q'
        have fs : j < (Sort.flatK enc k d).size := by simp [hd]; exact hj
        rw [if_pos hj, q']
        simp only [Sort.putCells, Array.getElem?_mapIdx, Array.getElem?_eq_getElem hjc, Option.map_some]
        rw [if_pos ⟨Nat.zero_le _, by omega⟩, Nat.sub_zero, Sort.get_flatK _ _ _ _ (by rw [hd]; exact hj)]
        have e3 : j % k < (enc d[j / k]!).length := by rw [hk]; exact j2
        rw [List.getElem?_eq_getElem e3, getElem!_pos (enc d[j / k]!) (j % k) e3]
        rfl
      · rw [if_neg hj]
        symm
        apply List.getElem?_eq_none
        rw [flat_len enc k hk]
        simp [hd]
        omega
theorem own_mono {w : World} {base base' : Nat} {e : TypeId} {size : Nat} {v : Value} {n : Nat} {xs : List Value} (h : w.ownsRow base e size v n xs) (hb : base' ≤ base) : w.ownsRow base' e size v n xs :=
  ⟨h.1, h.2.imp id (fun ⟨g, cap, cur, h1, h2, h3⟩ => ⟨g, cap, cur, h1, Nat.le_trans hb h2, h3⟩)⟩
theorem belowG {n0 : Nat} {w : World} (os : Array Obj) (hn : n0 ≤ w.heap.size) : Below n0 w (Sort.grow w os) :=
  ⟨rfl, rfl, rfl, by simp [Sort.grow], fun k hk => by
    show (w.heap ++ os)[k]? = _
    rw [Array.getElem?_append_left (by omega)]⟩
theorem belowK {α : Type} [Inhabited α] {enc : α → List Value} {k n0 : Nat} {w : World} {b off : Nat} {d : Array α} (hb : n0 ≤ b) : Below n0 w (Sort.putRowK enc k w b off d) :=
  ⟨rfl, rfl, rfl, by simp [Sort.putRowK, Sort.putRow, Sort.mapBlock], fun j hj => by
    simp only [Sort.putRowK, Sort.putRow, Sort.mapBlock, Array.getElem?_modify]
    rw [if_neg (by omega)]⟩
end Go.Proofs.YthdohcjingfpoaaGreatDoor
namespace Go.Proofs.YthdohcjingfpoaaGreatDoor
open Go.RowKit

theorem add_off (b off j : Nat) : (⟨b, off, none⟩ : Addr).add j = ⟨b, off + j, none⟩ := by unfold Addr.add; split <;> simp_all
/-- A slice reads as a list of elements of several cells each. -/
def RowK {α : Type} (enc : α → List Value) (w : World) (v : Value) (l : List α) : Prop :=
  ∃ a cap, v = .slice a l.length cap ∧ (l = [] ∨ ∃ b off, a = some ⟨b, off, none⟩ ∧ ∀ j u, (l.flatMap enc)[j]? = some u → w.cell? ⟨b, off + j, none⟩ = some u)
theorem RowK.nil {α : Type} (enc : α → List Value) (w : World) : RowK enc w (.slice none 0 0) [] := ⟨none, 0, rfl, Or.inl rfl⟩
theorem RowK.on {α : Type} {enc : α → List Value} {w w' : World} {v : Value} {l : List α} (h : RowK enc w v l) (q : Below w.heap.size w w') : RowK enc w' v l := by
  obtain ⟨a, cap, e, hc⟩ := h
  refine ⟨a, cap, e, ?_⟩
  rcases hc with hc | ⟨b, off, ea, hc⟩
  · exact Or.inl hc
  · refine Or.inr ⟨b, off, ea, fun j u hu => ?_⟩
    have k0 := hc j u hu
    exact (q.cell (p := ⟨b, off + j, none⟩) (World.block_lt_of_cell? _ _ k0)).trans k0
theorem RowK.form {α : Type} {enc : α → List Value} {w : World} {v : Value} {l : List α} (h : RowK enc w v l) : ∃ a cap, v = .slice a l.length cap := by
  obtain ⟨a, cap, e, _⟩ := h
  exact ⟨a, cap, e⟩
theorem own_rowK {α : Type} {enc : α → List Value} {k : Nat} (hk : ∀ x, (enc x).length = k) (k0 : 0 < k) {t : TypeId} {w : World} {n0 n : Nat} {v : Value} {l : List α} (h : w.ownsRow n0 t k v n (l.flatMap enc)) : RowK enc w v l := by
  have hl : n = l.length := by
    have := h.1
    rw [flat_len enc k hk] at this
    exact (Nat.eq_of_mul_eq_mul_right k0 this).symm
  subst hl
  rcases h.2 with ⟨hv, h0⟩ | ⟨g, cap, cur, hv, _⟩
  · exact ⟨none, 0, by rw [hv, h0], Or.inl (List.eq_nil_of_length_eq_zero h0)⟩
  · exact ⟨some ⟨g, 0, none⟩, cap, hv, Or.inr ⟨g, 0, rfl, fun j u hu => by
      have := h.cells (g := g) (by rw [hv]; rfl) j u hu
      rwa [add_off] at this⟩⟩
/-- What is appended to a row of one's own is owned. -/
theorem appK_any {α : Type} {enc : α → List Value} {k : Nat} (hk : ∀ x, (enc x).length = k) (k0 : 0 < k) (h1 : ∀ x, ∀ u ∈ enc x, u.oneCell' = true) {te ts : TypeId} {z : Value} {nb : Nat} (hu : Tryz.prog.underlying ts = some (.slice te))
    (hinfo : (Tryz.prog.info? te).map (fun i => (i.zero, i.size, i.bytes)) = some (some z, k, nb)) (hzs : z.cells.size = k) (hnb : nb ≤ 10000) {w : World} {n0 : Nat} {v vo : Value} {l mo : List α} (h : w.ownsRow n0 te k v l.length (l.flatMap enc)) (hm : RowK enc w vo mo) (hn : n0 ≤ w.heap.size) (hl : l.length + mo.length ≤ 1000000000) :
    ∃ v' w', (∀ ty, (Builtin.append_ #[ts, ts] ty #[v, vo]).run Tryz.prog w = .ok v' w') ∧ w'.ownsRow n0 te k v' (l ++ mo).length ((l ++ mo).flatMap enc) ∧ Below n0 w w' := by
  obtain ⟨i0, hi, hz0, hz1, hz2⟩ := info_parts hinfo
  obtain ⟨a, cap, rfl, hc⟩ := hm
  have own : ∀ (v' : Value) (w' : World), w'.ownsRow n0 te k v' (l.length + mo.length) (l.flatMap enc ++ mo.flatMap enc) → w'.ownsRow n0 te k v' (l ++ mo).length ((l ++ mo).flatMap enc) := fun v' w' q => by
    rw [List.length_append, List.flatMap_append]; exact q
  have blw : ∀ w' : World, w.grownBy w' v.ownBlock → Below n0 w w' := fun w' q => (Below.refl n0 w).grown q hn (fun j hj => (h.lt j hj).1)
  have some_ : ∀ ad : Addr, (∀ j u, (mo.flatMap enc)[j]? = some u → w.cell? (ad.add j) = some u) → ∃ (v' : Value) (w' : World), (∀ ty, (Builtin.append_ #[ts, ts] ty #[v, .slice (some ad) mo.length cap]).run Tryz.prog w = .ok v' w') ∧ w'.ownsRow n0 te k v' (l ++ mo).length ((l ++ mo).flatMap enc) ∧ Below n0 w w' := fun ad hcell => by
    have run := fun ty => run_append_own_at (P := Tryz.prog) w n0 ts ty te i0 z k nb hu hi hz0 hz1 hz2 hzs k0 v l.length (l.flatMap enc) h ad mo.length cap (mo.flatMap enc) (flat_len enc k hk mo) hcell (fun u hu' => by
      obtain ⟨x, _, hx⟩ := List.mem_flatMap.1 hu'
      exact h1 x u hx) (by unfold maxLen; omega) (by
        have : (l.length + mo.length) * nb ≤ 1000000000 * 10000 := Nat.mul_le_mul hl hnb
        omega) hn
    obtain ⟨v', w', hr, r1, r2, _, _⟩ := run ts
    exact ⟨v', w', fun ty => hr, own v' w' r1, blw w' r2⟩
  rcases hc with rfl | ⟨b, off, rfl, hc⟩
  · rcases a with _ | ad
    · refine ⟨v, w, fun ty => ?_, own v w (by simpa using h), Below.refl _ _⟩
      rcases h.2 with ⟨rfl, h0⟩ | ⟨g, cp, cur, rfl, _, hg, hnc, _, _, _⟩
      · simp [Builtin.append_, run_underlying hu, sizeOf, typeInfo, hi, Builtin.lenOf, Builtin.firstCells]
      · simp [Builtin.append_, run_underlying hu, sizeOf, typeInfo, hi, Builtin.lenOf, Builtin.firstCells, hnc, storeCells]
    · exact some_ ad (fun j u hu' => by simp at hu')
  · exact some_ ⟨b, off, none⟩ (fun j u hu' => by rw [add_off]; exact hc j u hu')
end Go.Proofs.YthdohcjingfpoaaGreatDoor
