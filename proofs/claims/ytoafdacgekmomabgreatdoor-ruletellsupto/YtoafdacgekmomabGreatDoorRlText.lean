/-
  What is proved here: what package rule's Print answers of any rule (contracts over the translation); the words are asked as premises.
-/
import Derived.Test.YtoafdacgekmomabGreatDoorRlParts
namespace Go.Proofs.YtoafdacgekmomabGreatDoor
open Go.RowKit Cal Txt

/-- The words of frequencies and parts lie as their texts lay them. -/
def FrW (w : World) : Prop := ∀ k : Nat, k < 4 → w.cell? ⟨0, k, none⟩ = some (.string (tb (fq (k + 1))))
def PaW (w : World) : Prop := ∀ k : Nat, k < 7 → w.cell? ⟨1, k, none⟩ = some (.string (tb (kw k)))
theorem FrW.below {w w' : World} (h : FrW w) (b : Below w.heap.size w w') : FrW w' := fun k hk => (b.cell (p := ⟨0, k, none⟩) (cell_lt (h k hk))).trans (h k hk)
theorem PaW.below {w w' : World} (h : PaW w) (b : Below w.heap.size w w') : PaW w' := fun k hk => (b.cell (p := ⟨1, k, none⟩) (cell_lt (h k hk))).trans (h k hk)
theorem idx7 (r : Rl) (k : Nat) (h : k < 7) (W : World) : (Instr.index 57 (.agg #[.string (tb (unt r.every 1)), .string (tb (unt r.count 0)), .string (tb (dayt r.till)), .string (tb (lt nt r.months)), .string (tb (lt nt r.days)), .string (tb (lt wt r.weeks)), .string (tb (lt nt r.pick))]) (.int .i64 k)).run Tryz.prog W = .ok (.string (tb (pt r k))) W := by
  rcases seven h with rfl | rfl | rfl | rfl | rfl | rfl | rfl <;> kernel_rfl
/-- A rule's text, as far as so many parts. -/
def tk (r : Rl) : Nat → List UInt8
  | 0 => fq r.freq
  | k + 1 => tk r k ++ (if pt r k = [] then [] else 32 :: kw k ++ 32 :: pt r k)
theorem lt_nil {α : Type} (tx : α → List UInt8) (l : List α) (h : ∀ x ∈ l, tx x ≠ []) : lt tx l = [] ↔ l = [] := by
  cases l with
  | nil => simp [lt, joinBy]
  | cons a r =>
    constructor
    · intro e
      exfalso
      have ha := h a (by simp)
      unfold lt at e
      cases r with
      | nil => exact ha e
      | cons b r =>
        simp only [List.map_cons] at e
        rw [joinBy_cons _ _ (by simp)] at e
        have := congrArg List.length e
        simp at this
    · intro e; cases e
theorem wt_ne {x : Int × Int} (h1 : 1 ≤ x.2) (h7 : x.2 ≤ 7) : wt x ≠ [] := fun e => by
  have d := dn_len h1 h7
  have := congrArg List.length e
  unfold wt at this
  rw [List.length_append, d] at this
  simp at this
theorem part_pt (r : Rl) (hw : wkB r.weeks = true) (k : Nat) (hk : k < 7) : Txt.part k r = if pt r k = [] then [] else [kw k, pt r k] := by
  have e1 : ∀ n u : Int, unt n u = [] ↔ n = u := fun n u => by
    unfold unt
    by_cases h : n = u
    · simp [h]
    · simp [h, nt_ne]
  have e2 : ∀ n : Int, dayt n = [] ↔ n = 0 := fun n => by
    unfold dayt
    by_cases h : n = 0
    · simp [h]
    · simp only [h, if_false, iff_false]
      intro e
      have := congrArg List.length e
      unfold dt at this
      rw [dt3_len] at this
      simp at this
  have e3 : ∀ l : List Int, lt nt l = [] ↔ l = [] := fun l => lt_nil nt l (fun x _ => nt_ne x)
  have e4 : lt wt r.weeks = [] ↔ r.weeks = [] := lt_nil wt _ (fun x hx => by
    have := of_decide_eq_true (List.all_eq_true.1 hw x hx)
    exact wt_ne this.1 this.2.1)
  rcases seven hk with rfl | rfl | rfl | rfl | rfl | rfl | rfl
  · by_cases h : r.every = 1 <;> simp [Txt.part, pt, unt, h, nt_ne]
  · by_cases h : r.count = 0 <;> simp [Txt.part, pt, unt, h, nt_ne]
  · by_cases h : r.till = 0
    · simp [Txt.part, pt, dayt, h]
    · have := (not_congr (e2 r.till)).2 h
      simp only [Txt.part, pt]
      simp [h]
      simp [this]
      simp [dayt, h]
  · by_cases h : r.months = []
    · simp [Txt.part, pt, h, lt, joinBy]
    · simp [Txt.part, pt, h, (not_congr (e3 _)).2 h]
  · by_cases h : r.days = []
    · simp [Txt.part, pt, h, lt, joinBy]
    · simp [Txt.part, pt, h, (not_congr (e3 _)).2 h]
  · by_cases h : r.weeks = []
    · simp [Txt.part, pt, h, lt, joinBy]
    · simp [Txt.part, pt, h, (not_congr e4).2 h]
  · by_cases h : r.pick = []
    · simp [Txt.part, pt, h, lt, joinBy]
    · simp [Txt.part, pt, h, (not_congr (e3 _)).2 h]
/-- The words of the first so many parts. -/
def fsts (r : Rl) : Nat → List (List UInt8)
  | 0 => []
  | k + 1 => fsts r k ++ Txt.part k r
theorem fst_join (r : Rl) (hw : wkB r.weeks = true) : ∀ k, k ≤ 7 → joinBy 32 (fq r.freq :: fsts r k) = tk r k
  | 0, _ => rfl
  | k + 1, h => by
    have ih := fst_join r hw k (by omega)
    show joinBy 32 (fq r.freq :: (fsts r k ++ Txt.part k r)) = tk r k ++ _
    rw [part_pt r hw k (by omega)]
    by_cases e : pt r k = []
    · rw [if_pos e, if_pos e, List.append_nil, List.append_nil]; exact ih
    · rw [if_neg e, if_neg e, ← ih]
      have e1 : fq r.freq :: (fsts r k ++ [kw k, pt r k]) = (fq r.freq :: fsts r k) ++ [kw k] ++ [pt r k] := by simp
      rw [e1, join_snoc 32 _ _ (by simp), join_snoc 32 _ _ (by simp)]
      simp
theorem fst_parts (r : Rl) : fsts r 7 = parts 7 r := by
  show (((((([] ++ Txt.part 0 r) ++ Txt.part 1 r) ++ Txt.part 2 r) ++ Txt.part 3 r) ++ Txt.part 4 r) ++ Txt.part 5 r) ++ Txt.part 6 r = Txt.part 0 r ++ (Txt.part 1 r ++ (Txt.part 2 r ++ (Txt.part 3 r ++ (Txt.part 4 r ++ (Txt.part 5 r ++ (Txt.part 6 r ++ []))))))
  simp
theorem tk_rt (r : Rl) (hw : wkB r.weeks = true) : tk r 7 = rt r := by
  rw [← fst_join r hw 7 (by decide), fst_parts]; rfl
end Go.Proofs.YtoafdacgekmomabGreatDoor
