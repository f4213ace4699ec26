/-
  What is proved here: small words on a list of texts that a call gathers, and on its joining.
-/
import Derived.Test.YtdiijpjfkgnjkacDoorRuleF
import Derived.Test.YtdiijpjfkgnjkacDoorMem
import Derived.OwnWalk
import Derived.Lib.Join
namespace Go.Proofs.YtdiijpjfkgnjkacDoor
open Go.RowKit Cal Txt

/-- A text as bytes. -/
def tb (l : List UInt8) : ByteArray := ⟨l.toArray⟩
theorem tb_data (l : List UInt8) : (tb l).data.toList = l := by simp [tb]
theorem join_by (xs : List (List UInt8)) : Lib.join xs [44] = joinBy 44 xs := by
  induction xs with
  | nil => rfl
  | cons a r ih =>
    cases r with
    | nil => rw [Lib.join_one]; rfl
    | cons b r =>
      show _ = a ++ 44 :: joinBy 44 (b :: r)
      rw [← ih]
      simp [Lib.join, List.intercalate]
theorem join_len (c : UInt8) (k : Nat) : ∀ (xs : List (List UInt8)), (∀ x ∈ xs, x.length ≤ k) → (joinBy c xs).length ≤ xs.length * (k + 1)
  | [], _ => by simp [joinBy]
  | [a], h => by
    have := h a (by simp)
    show a.length ≤ 1 * (k + 1)
    omega
  | a :: b :: l, h => by
    have h1 := h a (by simp)
    have h2 := join_len c k (b :: l) (fun x hx => h x (by simp at hx ⊢; exact Or.inr hx))
    show (a ++ c :: joinBy c (b :: l)).length ≤ _
    rw [List.length_append, List.length_cons]
    have : (a :: b :: l).length * (k + 1) = (b :: l).length * (k + 1) + (k + 1) := by rw [List.length_cons, Nat.succ_mul]
    omega
theorem own_below {W W' : World} {base : Nat} {e : TypeId} {size : Nat} {v : Value} {n : Nat} {xs : List Value} (h : W.ownsRow base e size v n xs) (q : Below W.heap.size W W') : W'.ownsRow base e size v n xs := by
  refine ⟨h.1, ?_⟩
  rcases h.2 with a | ⟨g, cap, cur, hv, hb, hg, r⟩
  · exact Or.inl a
  · have hlt : g < W.heap.size := by
      rcases Nat.lt_or_ge g W.heap.size with k | k
      · exact k
      · rw [Array.getElem?_eq_none k] at hg; cases hg
    exact Or.inr ⟨g, cap, cur, hv, hb, (q.block g hlt).trans hg, r⟩
/-- Texts as cells. -/
def strs (xs : List ByteArray) : List Value := xs.map Value.string
/-- The first texts of a list. -/
def gat {α : Type} (tx : α → List UInt8) (l : List α) (k : Nat) : List ByteArray := (l.take k).map fun x => tb (tx x)
theorem gat_len {α : Type} (tx : α → List UInt8) (l : List α) (k : Nat) (h : k ≤ l.length) : (gat tx l k).length = k := by unfold gat; rw [List.length_map, List.length_take]; omega
theorem gat_next {α : Type} (tx : α → List UInt8) (l : List α) (k : Nat) (d : α) (h : k < l.length) : gat tx l (k + 1) = gat tx l k ++ [tb (tx (l.getD k d))] := by
  unfold gat
  rw [List.take_succ_eq_append_getElem h, List.map_append, List.getD_eq_getElem?_getD, List.getElem?_eq_getElem h]; rfl
theorem gat_all {α : Type} (tx : α → List UInt8) (l : List α) : (gat tx l l.length).map (·.data.toList) = l.map tx := by
  unfold gat
  rw [List.take_length, List.map_map]
  exact List.map_congr_left (fun x _ => tb_data _)
/-- What a gathered list of texts looks like. -/
theorem own_texts {W : World} {base : Nat} {e : TypeId} {v : Value} {n : Nat} {xs : List ByteArray} (h : W.ownsRow base e 1 v n (strs xs)) (hn : 0 < n) :
    ∃ g cap, v = .slice (some ⟨g, 0, none⟩) n cap ∧ g < W.heap.size ∧ n ≤ cap ∧ ∀ (j : Nat) x, xs[j]? = some x → W.cell? ⟨g, 0 + j, none⟩ = some (.string x) := by
  rcases h.2 with ⟨_, h0⟩ | ⟨g, cap, cur, hv, hb, hg, hc, hm, hs, ht⟩
  · omega
  · refine ⟨g, cap, hv, ?_, hc, fun j x hj => ?_⟩
    · rcases Nat.lt_or_ge g W.heap.size with k | k
      · exact k
      · rw [Array.getElem?_eq_none k] at hg; cases hg
    · have := h.cells (g := g) (by rw [hv]; rfl) j (.string x) (by unfold strs; rw [List.getElem?_map, hj]; rfl)
      have hadd : (⟨g, 0, none⟩ : Addr).add j = ⟨g, 0 + j, none⟩ := by unfold Addr.add; split <;> simp_all
      rw [hadd] at this
      exact this
theorem info_str : (Tryd.prog.info? 9).map (fun i => (i.zero, i.size, i.bytes)) = some (some (.string ByteArray.empty), 1, 16) := by kernel_rfl
/-- strconv.Itoa of any number. -/
theorem itoa_nt (n : Int) (w : World) (hP : Pow w) (h0 : -9223372036854775808 ≤ n) (h1 : n ≤ 9223372036854775807) :
    Calls Tryd.prog 40 #[.int .i64 n] w fun e w' => e = .returned (.string (tb (nt n))) ∧ Below w.heap.size w w' := by
  refine (Tryd.strconv_Itoa n h0 h1 w hP).mono ?_
  rintro e w' ⟨rfl, k, os, rfl⟩
  refine ⟨?_, below_grew w k os⟩
  have : Lib.itoa n = nt n := by
    unfold Lib.itoa nt
    by_cases h : n < 0
    · rw [if_pos h, if_pos h]
    · rw [if_neg h, if_neg h, show n.toNat = n.natAbs by omega]
  rw [this]; rfl
/-- One more text is gathered. -/
theorem own_next {w wr w1 w2 : World} {B : Nat} {e : TypeId} {v v' : Value} {k : Nat} {xs : List ByteArray} {x : ByteArray} {o : Obj} (hB : B ≤ wr.heap.size) (hb : Below B w wr) (hx : Below wr.heap.size wr w1)
    (hown : wr.ownsRow B e 1 v k (strs xs)) (hown' : w2.ownsRow B e 1 v' (k + 1) (strs xs ++ [.string x])) (hgrow : (w1.alloc o).grownBy w2 v.ownBlock) :
    w2.ownsRow B e 1 v' (k + 1) (strs (xs ++ [x])) ∧ Below B w w2 := by
  refine ⟨by unfold strs; rw [List.map_append]; exact hown', ?_⟩
  have h1 : Below B w w1 := hb.trans (hx.mono hB)
  have hs := hx.size
  refine (h1.alloc (by omega) o).grown hgrow (by simp; omega) (fun j hj => ?_)
  have := (hown.lt j hj).1
  omega
theorem join_nil0 (a : Option Addr) (c : Nat) (w : World) : Calls Tryd.prog 78 #[.slice a 0 c, .string ⟨#[44]⟩] w fun e w' => e = .returned (.string ⟨#[]⟩) ∧ w' = w := Any.strings_Join_none Tryd.lays156 Tryd.Builder_Extra_156 a c _ w
theorem join_any {α : Type} (tx : α → List UInt8) (l : List α) (g n c : Nat) (w : World) (hl : l.length = n) (hb : n ≤ 100) (hs : ∀ x ∈ l, (tx x).length ≤ 30) (hcells : ∀ (j : Nat) x, (gat tx l n)[j]? = some x → w.cell? ⟨g, 0 + j, none⟩ = some (.string x)) (hg : g < w.heap.size) (hc : n ≤ c) :
    Calls Tryd.prog 78 #[.slice (some ⟨g, 0, none⟩) n c, .string ⟨#[44]⟩] w fun e w' => e = .returned (.string (tb (lt tx l))) ∧ Below w.heap.size w w' := by
  subst hl
  have e1 : Lib.join ((gat tx l l.length).map (·.data.toList)) [44] = lt tx l := by rw [gat_all, join_by]; rfl
  have e2 : (lt tx l).length ≤ 100 * 31 := by
    have := join_len 44 30 (l.map tx) (fun x hx => by obtain ⟨y, hy, rfl⟩ := List.mem_map.1 hx; exact hs y hy)
    rw [List.length_map] at this
    unfold lt
    have h2 : l.length * 31 ≤ 100 * 31 := Nat.mul_le_mul_right _ hb
    omega
  have h := Tryd.strings_Join g 0 c (gat tx l l.length) ⟨#[44]⟩ w hcells hg (by rw [gat_len _ _ _ (Nat.le_refl _)]; omega) (by rw [gat_len _ _ _ (Nat.le_refl _)]; exact hc) (by show (Lib.join _ [44]).length ≤ _; rw [e1]; omega)
  rw [gat_len _ _ _ (Nat.le_refl _)] at h
  refine h.mono ?_
  rintro e w' ⟨rfl, hb⟩
  exact ⟨by show Ending.returned (.string ⟨(Lib.join _ [44]).toArray⟩) = _; rw [e1]; rfl, hb⟩
end Go.Proofs.YtdiijpjfkgnjkacDoor
