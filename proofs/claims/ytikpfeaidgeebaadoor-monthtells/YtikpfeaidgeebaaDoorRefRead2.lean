/-
  What is proved here: what the document's ReadDate and Read answer, for every text, and that clock.Parse answers the same (contracts over the translation).
-/
import Derived.Test.YtikpfeaidgeebaaDoorRefRead
namespace Go.Proofs.YtikpfeaidgeebaaDoor
open Go.RowKit Cal Txt

/-- The number between two places; 0 where they are not all digits. -/
def dv (l : List UInt8) (a b : Nat) : Nat := if dgs l a b = true then nm l a b else 0
theorem digits_int (s : ByteArray) (a b : Nat) (ai bi : Int) (w : World) (hai : (a : Int) = ai) (hbi : (b : Int) = bi) (hab : a ≤ b) (hb : b ≤ s.size) (h9 : b - a ≤ 9) (hz : s.size ≤ 16) :
    Calls Tryd.prog 34 #[.string s, .int .i64 ai, .int .i64 bi] w fun e w' => e = .returned (.tuple #[.int .i64 (dv s.data.toList a b : Nat), .bool (dgs s.data.toList a b)]) ∧ w' = w := by
  subst hai hbi
  rcases hd : dgs s.data.toList a b with _ | _
  · have := digits_no s a b w hab hb h9 hz hd
    rw [show dv s.data.toList a b = 0 by unfold dv; rw [if_neg (by rw [hd]; decide)]]
    exact this
  · have := digits_yes s a b w hab hb h9 hz hd
    rw [show dv s.data.toList a b = nm s.data.toList a b by unfold dv; rw [if_pos hd]]
    exact this
theorem refOf_ex (y m d : Int) : ∃ v : Int, (okD y m d → v = num y m d ∧ 1 ≤ v) ∧ (¬ okD y m d → v = 0) ∧ 0 ≤ v ∧ v ≤ 109573 ∧
    ∀ w : World, Calls Tryd.prog 11 #[.agg #[.int .i64 y, .int .i64 m, .int .i64 d]] w fun e w' => e = .returned (.int .i64 v) ∧ Below w.heap.size w w' := by
  by_cases h : okD y m d
  · have nb := num_bd h
    exact ⟨num y m d, fun _ => ⟨rfl, nb.1⟩, fun q => absurd h q, by omega, nb.2, fun w => refOf_yes y m d w h⟩
  · exact ⟨0, fun q => absurd q h, fun _ => rfl, by omega, by omega, fun w => refOf_no y m d w h⟩
theorem getD_at (s : ByteArray) (k : Nat) (h : k < s.size) : s.data.toList.getD k 0 = s[k] := by
  rw [List.getD_eq_getElem?_getD, List.getElem?_eq_getElem (by simpa using h)]; rfl
/-- Has a text of ten bytes the form of a date? -/
def dfm (l : List UInt8) : Prop := l.getD 4 0 = 45 ∧ l.getD 7 0 = 45 ∧ dgs l 0 4 = true ∧ dgs l 5 7 = true ∧ dgs l 8 10 = true
theorem ret_intB {a b : Int} {c : Bool} (h : a = b) : Ending.returned (.tuple #[.int .i64 a, .bool c]) = .returned (.tuple #[.int .i64 b, .bool c]) := by rw [h]
/-! The first ten bytes of a text of sixteen. -/
theorem ten_list (s : ByteArray) : (s.extract 0 10).data.toList = s.data.toList.take 10 := by
  simp [ByteArray.data_extract]
theorem ten_size (s : ByteArray) (hz : s.size = 16) : (s.extract 0 10).size = 10 := by
  have : (s.extract 0 10).size = (s.extract 0 10).data.toList.length := rfl
  rw [this, ten_list, List.length_take, size_len]; omega
theorem ten_part (l : List UInt8) (a b : Nat) (hb : b ≤ 10) : ((l.take 10).drop a).take (b - a) = (l.drop a).take (b - a) := by
  rw [List.drop_take, List.take_take, Nat.min_eq_left (by omega)]
theorem ten_nm (l : List UInt8) (a b : Nat) (hb : b ≤ 10) : nm (l.take 10) a b = nm l a b := by unfold nm; rw [ten_part l a b hb]
theorem ten_dgs (l : List UInt8) (a b : Nat) (hb : b ≤ 10) : dgs (l.take 10) a b = dgs l a b := by unfold dgs; rw [ten_part l a b hb]
theorem ten_at (l : List UInt8) (k : Nat) (hk : k < 10) : (l.take 10).getD k 0 = l.getD k 0 := by
  rw [List.getD_eq_getElem?_getD, List.getD_eq_getElem?_getD, List.getElem?_take, if_pos hk]
theorem ten_dfm (l : List UInt8) : dfm (l.take 10) ↔ dfm l := by
  unfold dfm
  rw [ten_at l 4 (by omega), ten_at l 7 (by omega), ten_dgs l 0 4 (by omega), ten_dgs l 5 7 (by omega), ten_dgs l 8 10 (by omega)]
theorem fit_lit {f c : UInt8} (hf : f ≠ 48) : fit f c = true ↔ c = f := by
  unfold fit; rw [if_neg hf, beq_iff_eq]
theorem fit_dgt {c : UInt8} : fit 48 c = isDg c := by unfold fit; rw [if_pos rfl]
/-- The form, part by part. -/
theorem frm_split {l : List UInt8} (h : l.length = 16) : frm l = true ↔ l.getD 10 0 = 32 ∧ l.getD 13 0 = 58 ∧ dfm l ∧ dgs l 11 13 = true ∧ dgs l 14 16 = true := by
  obtain ⟨a, b, c, d, e, f, g, i, j, k, m, n, o, p, q, r, rfl⟩ := sixteen h
  constructor
  · intro hf
    obtain ⟨d1, d2, d3, d4, d5⟩ := frm_dg hf
    exact ⟨fit_is (by decide) (frm_at hf 10 (by decide)), fit_is (by decide) (frm_at hf 13 (by decide)),
      ⟨fit_is (by decide) (frm_at hf 4 (by decide)), fit_is (by decide) (frm_at hf 7 (by decide)), dgs_iff.2 d1, dgs_iff.2 d2, dgs_iff.2 d3⟩, dgs_iff.2 d4, dgs_iff.2 d5⟩
  · rintro ⟨h10, h13, ⟨h4, h7, g1, g2, g3⟩, g4, g5⟩
    have x1 := dgs_iff.1 g1
    have x2 := dgs_iff.1 g2
    have x3 := dgs_iff.1 g3
    have x4 := dgs_iff.1 g4
    have x5 := dgs_iff.1 g5
    change m = 32 at h10
    change p = 58 at h13
    change e = 45 at h4
    change i = 45 at h7
    subst h10 h13 h4 h7
    have t4 : fit 45 45 = true := by decide
    have t10 : fit 32 32 = true := by decide
    have t13 : fit 58 58 = true := by decide
    refine frm_mk rfl fun x hx => ?_
    have hcs : x = 0 ∨ x = 1 ∨ x = 2 ∨ x = 3 ∨ x = 4 ∨ x = 5 ∨ x = 6 ∨ x = 7 ∨ x = 8 ∨ x = 9 ∨ x = 10 ∨ x = 11 ∨ x = 12 ∨ x = 13 ∨ x = 14 ∨ x = 15 := by omega
    rcases hcs with rfl | rfl | rfl | rfl | rfl | rfl | rfl | rfl | rfl | rfl | rfl | rfl | rfl | rfl | rfl | rfl
    · exact fit_dg' (x1 a (by simp))
    · exact fit_dg' (x1 b (by simp))
    · exact fit_dg' (x1 c (by simp))
    · exact fit_dg' (x1 d (by simp))
    · exact t4
    · exact fit_dg' (x2 f (by simp))
    · exact fit_dg' (x2 g (by simp))
    · exact t4
    · exact fit_dg' (x3 j (by simp))
    · exact fit_dg' (x3 k (by simp))
    · exact t10
    · exact fit_dg' (x4 n (by simp))
    · exact fit_dg' (x4 o (by simp))
    · exact t13
    · exact fit_dg' (x5 q (by simp))
    · exact fit_dg' (x5 r (by simp))
end Go.Proofs.YtikpfeaidgeebaaDoor
