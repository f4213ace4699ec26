/-
  What is proved here: rows of Times; what slices.SortFunc answers at them, by the order of package times (a contract over the translation).
-/
import Derived.Test.YtkmmncebekcegaaGreatDoorBY
import Derived.Test.YtkmmncebekcegaaGreatDoorBQ
import Derived.Test.YtkmmncebekcegaaGreatDoorShelfT
import Derived.Shelf.SlSortCmp.WholeK
import Derived.Shelf.SlSortCmp.NoneTotal
namespace Go.Proofs.YtkmmncebekcegaaGreatDoor
open Go.RowKit Cal Txt

/-- A slice reads as a list of Times. -/
def Tms (w : World) (v : Value) (l : List Tm) : Prop :=
  ∃ a cap, v = .slice a l.length cap ∧ (l = [] ∨ ∃ b off, a = some ⟨b, off, none⟩ ∧ ∀ i, i < l.length → w.cell? ⟨b, off + i * 3, none⟩ = some (.int .i64 (l.getD i (0, 0, 0)).1) ∧ w.cell? ⟨b, off + i * 3 + 1, none⟩ = some (.int .i64 (l.getD i (0, 0, 0)).2.1) ∧ w.cell? ⟨b, off + i * 3 + 2, none⟩ = some (.int .i64 (l.getD i (0, 0, 0)).2.2))
theorem Tms.on {w w' : World} {v : Value} {l : List Tm} (h : Tms w v l) (q : Below w.heap.size w w') : Tms w' v l := by
  obtain ⟨a, cap, e, hc⟩ := h
  refine ⟨a, cap, e, ?_⟩
  rcases hc with hc | ⟨b, off, ea, hc⟩
  · exact Or.inl hc
  · refine Or.inr ⟨b, off, ea, fun i hi => ?_⟩
    obtain ⟨k0, k1, k2⟩ := hc i hi
    have hb : b < w.heap.size := ecell_in k0
    exact ⟨(q.cell (p := ⟨b, off + i * 3, none⟩) hb).trans k0, (q.cell (p := ⟨b, off + i * 3 + 1, none⟩) hb).trans k1, (q.cell (p := ⟨b, off + i * 3 + 2, none⟩) hb).trans k2⟩
/-- A Time's cells; those of a list. -/
def encT (x : Tm) : List Value := [.int .i64 x.1, .int .i64 x.2.1, .int .i64 x.2.2]
def prt (xs : List Tm) : List Value := xs.flatMap encT
theorem prt_snoc (xs : List Tm) (y : Tm) : prt (xs ++ [y]) = prt xs ++ [.int .i64 y.1, .int .i64 y.2.1, .int .i64 y.2.2] := by simp [prt, encT]
theorem prt_len (xs : List Tm) : (prt xs).length = xs.length * 3 := by
  induction xs with
  | nil => rfl
  | cons a r ih => show (encT a ++ prt r).length = _; rw [List.length_append, ih, List.length_cons]; simp [encT]; omega
theorem prt_at : ∀ (xs : List Tm) (i c : Nat), i < xs.length → c < 3 → (prt xs)[i * 3 + c]? = (encT (xs.getD i (0, 0, 0)))[c]?
  | a :: r, 0, c, _, hc => by
    show (encT a ++ prt r)[0 * 3 + c]? = _
    rw [Nat.zero_mul, Nat.zero_add, List.getElem?_append_left (by simpa [encT] using hc)]
    rfl
  | a :: r, i + 1, c, h, hc => by
    have ih := prt_at r i c (by simpa using h) hc
    show (encT a ++ prt r)[(i + 1) * 3 + c]? = _
    rw [List.getElem?_append_right (by simp [encT]; omega)]
    have e : (i + 1) * 3 + c - (encT a).length = i * 3 + c := by simp [encT]; omega
    rw [e, ih]
    rfl
theorem tm_get (l : List Tm) (j : Nat) (h : j < l.length) : l.toArray[j]! = l.getD j (0, 0, 0) := by
  rw [getElem!_pos _ j (by simpa using h), List.getD_eq_getElem?_getD, List.getElem?_eq_getElem h]; simp
theorem own_times {w : World} {n0 n : Nat} {v : Value} {l : List Tm} (h : w.ownsRow n0 54 3 v n (prt l)) : (v = .slice none 0 0 ∧ l = []) ∨ ∃ g cap, v = .slice (some ⟨g, 0, none⟩) l.length cap ∧ n0 ≤ g ∧ g < w.heap.size ∧ Sort.HoldsK encT 3 w g 0 l.toArray := by
  have hl : l.length = n := by have := h.1; rw [prt_len] at this; omega
  rcases h.2 with ⟨hv, h0⟩ | ⟨g, cap, cur, hv, hb, hg, hc, hm, hs, ht⟩
  · exact Or.inl ⟨hv, List.eq_nil_of_length_eq_zero (by omega)⟩
  · refine Or.inr ⟨g, cap, by rw [hv, hl], hb, ?_, fun j hj => ⟨?_, by simp [World.frozen?, hg]⟩⟩
    · rcases Nat.lt_or_ge g w.heap.size with q | q
      · exact q
      · rw [Array.getElem?_eq_none q] at hg; cases hg
    · have hadd : (⟨g, 0, none⟩ : Addr).add j = ⟨g, 0 + j, none⟩ := by unfold Addr.add; split <;> simp_all
      have hj' : j < l.length * 3 := by simpa using hj
      have q := prt_at l (j / 3) (j % 3) (by omega) (by omega)
      rw [show j / 3 * 3 + j % 3 = j by omega] at q
      have e2 : (encT (l.getD (j / 3) (0, 0, 0)))[j % 3]? = some (encT (l.getD (j / 3) (0, 0, 0)))[j % 3]! := by
        rw [getElem!_pos _ (j % 3) (by simp [encT]; omega)]
        exact List.getElem?_eq_getElem _
      have c1 := h.cells (g := g) (by rw [hv]; rfl) j _ (q.trans e2)
      rw [hadd] at c1
      rw [c1, Sort.get_flatK _ _ _ _ (by simpa using hj), tm_get l (j / 3) (by omega)]
      rfl
theorem holds_times {w : World} {g cap : Nat} {d : Array Tm} (h : Sort.HoldsK encT 3 w g 0 d) : Tms w (.slice (some ⟨g, 0, none⟩) d.toList.length cap) d.toList := by
  refine ⟨_, _, rfl, Or.inr ⟨g, 0, rfl, fun i hi => ?_⟩⟩
  have hi' : i < d.size := by simpa using hi
  have e : d.toList.getD i (0, 0, 0) = d[i]! := by
    rw [List.getD_eq_getElem?_getD, List.getElem?_eq_getElem hi, getElem!_pos _ i hi']; simp
  rw [e]
  exact ⟨(h.cell hi' (c := 0) (by omega)).1, (h.cell hi' (c := 1) (by omega)).1, (h.cell hi' (c := 2) (by omega)).1⟩
theorem cmT_lt (x y : Tm) : ltOf cmT x y = decide (x.2.1 < y.2.1 ∨ (x.2.1 = y.2.1 ∧ x.1 < y.1)) := by
  unfold ltOf cmT orI cmi
  rw [Bool.eq_iff_iff]
  simp only [decide_eq_true_iff]
  split <;> split <;> (try split) <;> (try split) <;> omega
theorem cmT_swo : Sort.SWO (ltOf cmT) where
  irrefl x := by rw [cmT_lt]; simp
  trans x y z h1 h2 := by rw [cmT_lt] at *; simp at *; omega
  ntrans x y z h1 h2 := by rw [cmT_lt] at *; simp at *; omega
theorem below_grow {n0 : Nat} {w : World} (os : Array Obj) (hn : n0 ≤ w.heap.size) : Below n0 w (Sort.grow w os) :=
  ⟨rfl, rfl, rfl, by simp [Sort.grow], fun k hk => by
    show (w.heap ++ os)[k]? = _
    rw [Array.getElem?_append_left (by omega)]⟩
theorem below_putK {n0 : Nat} {w : World} {b off : Nat} {d : Array Tm} (hb : n0 ≤ b) : Below n0 w (Sort.putRowK encT 3 w b off d) :=
  ⟨rfl, rfl, rfl, by simp [Sort.putRowK], fun k hk => by
    simp only [Sort.putRowK, Sort.putRow, Sort.mapBlock, Array.getElem?_modify]
    rw [if_neg (by omega)]⟩
/-- What is sorted. -/
def SrtA (n0 : Nat) (w : World) (v : Value) (l : List Tm) (e : Ending) (w' : World) : Prop := e = .returned (.tuple #[]) ∧ ∃ b, l.Perm b ∧ b.Pairwise (fun x y => leT x y = true) ∧ Tms w' v b ∧ Below n0 w w' ∧ w'.ownsRow n0 54 3 v l.length (prt b)
theorem sort_any (l : List Tm) (n0 : Nat) (v : Value) (w : World) (h : w.ownsRow n0 54 3 v l.length (prt l)) (hn : n0 ≤ w.heap.size) (hl : l.length ≤ 1000000) :
    Calls Tryz.prog 57 #[v, .func (.func 58) #[] #[]] w (SrtA n0 w v l) := by
  rcases own_times h with ⟨rfl, rfl⟩ | ⟨g, cap, rfl, hg, hgl, hh⟩
  · refine (AnyF.slices_SortFunc_none Tryz.sortTm none 0 (.func (.func 58) #[] #[]) w).mono ?_
    rintro e w' ⟨rfl, rfl⟩
    exact ⟨rfl, [], List.Perm.refl _, by simp, ⟨none, 0, rfl, Or.inl rfl⟩, Below.refl _ _, World.ownsRow_nil _ _ _ _⟩
  · have eg : ∀ args w, (callFunc 58 args).run Tryz.prog w = .ok (.enter 58 args) w := enters_of Tryz.func58 (by kernel_rfl) rfl
    have hcon := AnyQ.slices_SortFunc Tryz.sortTm 3 Tryz.isAgg54 Tryz.sizeOf54 encT (fun _ => rfl) (fun x u hu => by simp [encT] at hu; rcases hu with rfl | rfl | rfl <;> rfl) cmT cmT_swo 58 #[] g 0 cap l.toArray w eg (fun _ _ _ _ x y => cmpT_any x y _) hh hgl (by simp; omega)
    refine hcon.mono ?_
    rintro e w' ⟨rfl, d', n, os, hp, hs, rfl⟩
    have hsz : d'.size = l.toArray.size := hp.1
    refine ⟨rfl, d'.toList, ?_, ?_, ?_, ?_, ?_⟩
    · have := hp.2.2
      rw [← hsz, Array.extract_size, hsz, Array.extract_size] at this
      simpa using this.symm
    · rw [List.pairwise_iff_getElem]
      intro i j hi hj hij
      have := hs i j (Nat.zero_le _) hij (by rw [← hsz]; simpa using hj)
      rw [cmT_lt, getElem!_pos _ i (by simpa using hi), getElem!_pos _ j (by simpa using hj)] at this
      unfold leT
      simp at this ⊢
      omega
    · have hk := Sort.holdsK_grow encT 3 _ os g 0 d' (by simpa [Sort.putRowK] using hgl) (Sort.holdsK_putRowK encT 3 (Sort.ahead w n) g 0 l.toArray d' (Sort.holdsK_ahead encT 3 w n g 0 _ hh) hsz)
      have := holds_times (cap := cap) hk
      rw [show d'.toList.length = l.length by simpa using hsz] at this
      exact this
    · exact ((show Below n0 w (Sort.ahead w n) from ⟨rfl, rfl, rfl, Nat.le_refl _, fun _ _ => rfl⟩).trans (below_putK hg)).trans (below_grow os (by simpa [Sort.putRowK] using hn))
    · exact ow_below (own_putK encT 3 (fun _ => rfl) (by decide) (q := n) h d' (by simpa using hsz)) (below_grow os (Nat.le_refl _))
end Go.Proofs.YtkmmncebekcegaaGreatDoor
