/-
  What is proved here: what package line's Escape and Plain answer, for every text that is not too long (contracts over the translation).
-/
import Derived.Test.YtoafdacgekmomafDoorLnLet
import Derived.Lib.UnsafeStr
import Derived.Laws.IdiomStrings
namespace Go.Proofs.YtoafdacgekmomafDoor
open Go.RowKit Cal Ln

theorem info_u8 : (Tryd.prog.info? 5).map (fun i => (i.zero, i.size, i.bytes)) = some (some (.int .u8 0), 1, 1) := by kernel_rfl
/-- A row of bytes, gathered, as a text. -/
theorem own_conv {W : World} {base g cap n : Nat} {l : List UInt8} (h : W.ownsRow base 5 1 (.slice (some ⟨g, 0, none⟩) n cap) n (Lib.byteCells l)) :
    (convert 40 9 (.slice (some ⟨g, 0, none⟩) n cap)).run Tryd.prog W = .ok (.string (tb l)) W := by
  have hl : l.length = n := by have := h.1; simpa [Lib.byteCells] using this
  have hcv : ∀ j (hj : j < l.length), W.cell? ((⟨g, 0, none⟩ : Addr).add j) = some (.int .u8 (l[j].toNat : Int)) := by
    intro j hj
    have e : (⟨g, 0, none⟩ : Addr).add j = ⟨g, j, none⟩ := by unfold Addr.add; split <;> simp_all
    rw [e, h.cellAt j (by omega)]
    simp [Lib.byteCells, hj]
  have cv := run_convert_bytes_back W 40 9 5 ⟨g, 0, none⟩ cap l Tryd.underlying40 Tryd.underlying5 Tryd.underlying9 hcv
  rw [hl] at cv
  exact cv
/-- A row that was made is never the nil one. -/
def NotNil (v : Value) : Prop := ∃ g n c, v = .slice (some ⟨g, 0, none⟩) n c
theorem own_seen {W : World} {base n : Nat} {v : Value} {xs : List Value} (h : W.ownsRow base 5 1 v n xs) (hn : ¬ v = .slice none 0 0) : ∃ g cap, v = .slice (some ⟨g, 0, none⟩) n cap := by
  rcases h.2 with ⟨a, _⟩ | ⟨g, cap, _, a, _⟩
  · exact absurd a hn
  · exact ⟨g, cap, a⟩
theorem bytes_snoc1 (l : List UInt8) (b : UInt8) : Lib.byteCells l ++ [.int .u8 (b.toNat : Int)] = Lib.byteCells (l ++ [b]) := by simp [Lib.byteCells]
theorem bytes_snoc2 (l : List UInt8) (b c : UInt8) : Lib.byteCells l ++ [.int .u8 (b.toNat : Int), .int .u8 (c.toNat : Int)] = Lib.byteCells (l ++ [b, c]) := by simp [Lib.byteCells]
theorem grown_on {w wr w1 w2 : World} {B : Nat} {v : Value} {n : Nat} {e : TypeId} {xs : List Value} {o : Obj} (hB : B ≤ wr.heap.size) (hb : Below B w wr) (hx : Below wr.heap.size wr w1) (hown : wr.ownsRow B e 1 v n xs) (hgrow : (w1.alloc o).grownBy w2 v.ownBlock) : Below B w w2 := by
  have h1 : Below B w w1 := hb.trans (hx.mono hB)
  have hs := hx.size
  refine (h1.alloc (by omega) o).grown hgrow (by simp; omega) (fun j hj => ?_)
  have := (hown.lt j hj).1
  omega
set_option maxRecDepth 100000 in
set_option maxHeartbeats 2000000 in
theorem escape_any (s : ByteArray) (w : World) (hM : Mrk w) (hs : s.size ≤ 4194304) :
    Calls Tryd.prog 16 #[.string s] w fun e w' => e = .returned (.string (tb (esc s.data.toList))) ∧ Below w.heap.size w w' := by
  obtain ⟨i0, hi, hz0, hz1, hz2⟩ := info_parts info_u8
  have HM := Lib.hid hM
  clear hM
  go_enter Tryd.func16, Tryd.ntmps16
  go_wp2_with (at_make; refine wpList_make_own _ rfl _ _ 40 rfl w.heap.size 5 i0 (.int .u8 0) 1 Tryd.underlying40 hi hz0 hz1 _ _ _ s.size rfl rfl rfl ?b2 ?b3 (Nat.le_refl _) ?_)
  case b2 => rw [hz2]; omega
  case b3 => unfold maxLen; omega
  intro w0 hown0 hgrow0
  have hB0 : Below w.heap.size w w0 := (Below.refl _ _).grown hgrow0 (Nat.le_refl _) (fun k h => by cases h)
  have HB0 := Lib.hid hB0
  have HO0 := Lib.hid hown0
  clear hown0 hgrow0 hB0
  go_wp2
  go_loopw [3, 12] (fun v i wr => ∃ k : Nat, k ≤ s.size ∧ i = .int .i64 k ∧ wr.ownsRow w.heap.size 5 1 v (esc (s.data.toList.take k)).length (Lib.byteCells (esc (s.data.toList.take k))) ∧ (¬ v = .slice none 0 0) ∧ Below w.heap.size w wr) (fun _ i _ => s.size - (intOf i).toNat)
  case atStart => exact ⟨0, Nat.zero_le _, rfl, HO0.out, by simp, HB0.out⟩
  case round =>
    clear HO0 HB0
    obtain ⟨k, hk, rfl, hown, hnn, hB⟩ := hrel
    have HO := Lib.hid hown
    have HN := Lib.hid hnn
    clear hown hnn
    by_cases hlt : k < s.size
    · obtain ⟨b, hb0⟩ : ∃ b, b = s[k] := ⟨_, rfl⟩
      have hb1 : (s[k].toNat : Int) = (b.toNat : Int) := by rw [hb0]
      have T1 := Lib.hid (show esc (s.data.toList.take (k + 1)) = esc (s.data.toList.take k) ++ esc1 b by rw [take_snoc s k hlt, ← hb0]; exact esc_snoc _ _)
      clear hb0
      have L := esc_len (s.data.toList.take k)
      rw [List.length_take] at L
      have L2 : (esc (s.data.toList.take k)).length ≤ 8388608 := by omega
      clear L
      have sz := hB.size
      cases hl : lof b with
      | none =>
        have e1 := lb_no hl
        have T2 := Lib.hid (show esc1 b = [b] from esc1_none hl)
        clear hl
        go_wp2_with fail
        refine (letterOf_any b _ (HM.out.below hB)).mono ?_
        rintro e w1 ⟨rfl, hb⟩
        have HO1 := Lib.hid (own_below HO.out hb)
        have sz1 := hb.size
        have HB1 := Lib.hid hb
        clear hb
        go_wp2_with (at_builtin; refine wpList_append_own _ rfl _ _ 40 rfl w.heap.size 5 i0 (.int .u8 0) 1 1 Tryd.underlying40 hi hz0 hz1 hz2 rfl (by decide) _ _ _ rfl (HO1.out.alloc _) ⟨w1.heap.size, 0, none⟩ 1 1 [.int .u8 (b.toNat : Int)] rfl rfl ?c1 ?c2 ?c3 ?c4 ?c5 ?_)
        case c1 =>
          intro j u hj
          match j, hj with
          | 0, hj => simp at hj; subst hj; simp [Addr.add]
        case c2 => intro u hu; simp at hu; subst hu; rfl
        case c3 => unfold maxLen; omega
        case c4 => omega
        case c5 => simp; omega
        intro v' w2 hown' hgrow hnil
        rw [bytes_snoc1] at hown'
        have N1 := Lib.hid (show ¬ v' = .slice none 0 0 from hnil)
        have R2 := Lib.hid (grown_on hB.size hB HB1.out HO.out hgrow)
        have R1 := Lib.hid hown'
        clear hown' hgrow HO1 HO hnil
        go_wp2
        go_roundw
        case rel => exact ⟨k + 1, by omega, by go_num, by rw [T1.out, T2.out]; simpa using R1.out, N1.out, R2.out⟩
        case measure => simp [intOf]; omega
      | some c =>
        have e1 := lb_yes hl
        have e2 := lo_yes hl
        have T2 := Lib.hid (show esc1 b = [92, c] from esc1_some hl)
        clear hl
        go_wp2_with fail
        refine (letterOf_any b _ (HM.out.below hB)).mono ?_
        rintro e w1 ⟨rfl, hb⟩
        have HO1 := Lib.hid (own_below HO.out hb)
        have sz1 := hb.size
        have HB1 := Lib.hid hb
        clear hb
        go_wp2_with (at_builtin; refine wpList_append_own _ rfl _ _ 40 rfl w.heap.size 5 i0 (.int .u8 0) 1 1 Tryd.underlying40 hi hz0 hz1 hz2 rfl (by decide) _ _ _ rfl (HO1.out.alloc _) ⟨w1.heap.size, 0, none⟩ 2 2 [.int .u8 92, .int .u8 (c.toNat : Int)] rfl rfl ?d1 ?d2 ?d3 ?d4 ?d5 ?_)
        case d1 =>
          intro j u hj
          match j, hj with
          | 0, hj => simp at hj; subst hj; simp [Addr.add]
          | 1, hj => simp at hj; subst hj; simp [Addr.add]
        case d2 => intro u hu; simp at hu; rcases hu with rfl | rfl <;> rfl
        case d3 => unfold maxLen; omega
        case d4 => omega
        case d5 => simp; omega
        intro v' w2 hown' hgrow hnil
        rw [show ([.int .u8 92, .int .u8 (c.toNat : Int)] : List Value) = [.int .u8 ((92 : UInt8).toNat : Int), .int .u8 (c.toNat : Int)] from rfl, bytes_snoc2] at hown'
        have N1 := Lib.hid (show ¬ v' = .slice none 0 0 from hnil)
        have R2 := Lib.hid (grown_on hB.size hB HB1.out HO.out hgrow)
        have R1 := Lib.hid hown'
        clear hown' hgrow HO1 HO hnil
        go_wp2
        go_roundw
        case rel => exact ⟨k + 1, by omega, by go_num, by rw [T1.out, T2.out]; simpa using R1.out, N1.out, R2.out⟩
        case measure => simp [intOf]; omega
    · obtain ⟨g, cap, rfl⟩ := own_seen HO.out HN.out
      have e : s.data.toList.take k = s.data.toList := List.take_of_length_le (by show s.size ≤ k; omega)
      rw [e] at HO
      have cv := own_conv HO.out
      rw [e]
      clear e
      go_wp2
      go_ret
      exact ⟨rfl, hB⟩
/-- What Plain answers: the text, or none and its error. -/
def plV (s : ByteArray) : ByteArray := tb ((pln s.data.toList).getD [])
def plF (s : ByteArray) : Int := if (pln s.data.toList).isSome then 0 else 2
theorem plV_some {s : ByteArray} {c : List UInt8} (h : pln s.data.toList = some c) : plV s = tb c := by unfold plV; rw [h]; rfl
theorem plF_some {s : ByteArray} {c : List UInt8} (h : pln s.data.toList = some c) : plF s = 0 := by unfold plF; rw [h]; rfl
theorem plV_none {s : ByteArray} (h : pln s.data.toList = none) : plV s = ⟨#[]⟩ := by unfold plV; rw [h]; rfl
theorem plF_none {s : ByteArray} (h : pln s.data.toList = none) : plF s = 2 := by unfold plF; rw [h]; rfl
theorem ln_drop2 (x : ByteArray) (c : Nat) : (x.extract c x.size).data.toList = x.data.toList.drop c := by
  rw [ByteArray.data_extract, Array.toList_extract, List.extract_eq_take_drop]
  exact List.take_of_length_le (by rw [List.length_drop]; exact Nat.le_refl _)
set_option maxRecDepth 100000 in
set_option maxHeartbeats 2000000 in
theorem plain_any (s : ByteArray) (w : World) (hM : Mrk w) (hs : s.size ≤ 4194304) :
    Calls Tryd.prog 7 #[.string s] w fun e w' => e = .returned (.tuple #[.string (plV s), fault (plF s)]) ∧ Below w.heap.size w w' := by
  obtain ⟨i0, hi, hz0, hz1, hz2⟩ := info_parts info_u8
  have HM := Lib.hid hM
  clear hM
  go_enter Tryd.func7, Tryd.ntmps7
  go_wp2_with (at_make; refine wpList_make_own _ rfl _ _ 40 rfl w.heap.size 5 i0 (.int .u8 0) 1 Tryd.underlying40 hi hz0 hz1 _ _ _ s.size rfl rfl rfl ?b2 ?b3 (Nat.le_refl _) ?_)
  case b2 => rw [hz2]; omega
  case b3 => unfold maxLen; omega
  intro w0 hown0 hgrow0
  have hB0 : Below w.heap.size w w0 := (Below.refl _ _).grown hgrow0 (Nat.le_refl _) (fun k h => by cases h)
  have HB0 := Lib.hid hB0
  have HO0 := Lib.hid hown0
  clear hown0 hgrow0 hB0
  go_wp2
  go_loopw [4, 5] (fun v l wr => ∃ (x : ByteArray) (t : List UInt8), l = .string x ∧ x.size ≤ s.size ∧ t.length + x.size ≤ s.size ∧ PK s.data.toList x.data.toList t ∧ wr.ownsRow w.heap.size 5 1 v t.length (Lib.byteCells t) ∧ (¬ v = .slice none 0 0) ∧ Below w.heap.size w wr) (fun _ l _ => sLen l)
  case atStart => exact ⟨s, [], rfl, Nat.le_refl _, by simp, PK_start _, HO0.out, by simp, HB0.out⟩
  case round =>
    clear HO0 HB0
    obtain ⟨x, t, rfl, hx, ht, hK, hown, hnn, hB⟩ := hrel
    have HK := Lib.hid hK
    have HO := Lib.hid hown
    have HN := Lib.hid hnn
    clear hK hown hnn
    by_cases h0 : x.size = 0
    · have e0 : x = ⟨#[]⟩ := ByteArray.ext (Array.eq_empty_of_size_eq_zero h0)
      have E1 := PK_end (by have := HK.out; rw [nil_of_size h0] at this; exact this)
      have HE := Lib.hid E1
      clear E1 HK
      obtain ⟨g, cap, rfl⟩ := own_seen HO.out HN.out
      have cv := own_conv HO.out
      go_wp2
      go_ret2
      exact ⟨by rw [plV_some HE.out, plF_some HE.out]; rfl, hB⟩
    · have p : x.toList.isEmpty = false := by rw [ByteArray.toList_eq]; simpa using ne_of_size h0
      have hp : 0 < x.size := by omega
      by_cases hz : (fb x.data.toList).2 = 0
      · have HE := Lib.hid (PK_no HK.out (ne_of_size h0) hz)
        go_wp2_with (go_at_call 17; refine (firstByte_any x _ (HM.out.below hB) hp).mono ?_; rintro e w1 ⟨rfl, hb⟩)
        go_ret2
        exact ⟨by rw [plV_none HE.out, plF_none HE.out]; rfl, hB.trans (hb.mono hB.size)⟩
      · have N1 := Lib.hid (PK_next HK.out (ne_of_size h0) hz)
        obtain ⟨d, hd⟩ : ∃ d, d = (fb x.data.toList).2 := ⟨_, rfl⟩
        obtain ⟨b, hb0⟩ : ∃ b, b = (fb x.data.toList).1 := ⟨_, rfl⟩
        have hle : d ≤ x.size := by rw [hd]; exact fb_le _
        have hdp : 0 < d := by omega
        rw [← hd, ← hb0] at N1
        have FB := Lib.hid (firstByte_any x wr (HM.out.below hB) hp)
        unfold FbA at FB
        rw [← hd, ← hb0] at FB
        have hdz : ¬ (d : Int) = 0 := by omega
        clear hz hd hb0
        go_wp2_with (go_at_call 17; refine FB.out.mono ?_; rintro e w1 ⟨rfl, hb⟩; fail)
        refine FB.out.mono ?_
        rintro e w1 ⟨rfl, hb⟩
        have HO1 := Lib.hid (own_below HO.out hb)
        have sz1 := hb.size
        have sz := hB.size
        have HB1 := Lib.hid hb
        clear hb FB
        go_wp2_with (at_builtin; refine wpList_append_own _ rfl _ _ 40 rfl w.heap.size 5 i0 (.int .u8 0) 1 1 Tryd.underlying40 hi hz0 hz1 hz2 rfl (by decide) _ _ _ rfl (HO1.out.alloc _) ⟨w1.heap.size, 0, none⟩ 1 1 [.int .u8 (b.toNat : Int)] rfl rfl ?c1 ?c2 ?c3 ?c4 ?c5 ?_)
        case c1 =>
          intro j u hj
          match j, hj with
          | 0, hj => simp at hj; subst hj; simp [Addr.add]
        case c2 => intro u hu; simp at hu; subst hu; rfl
        case c3 => unfold maxLen; omega
        case c4 => omega
        case c5 => simp; omega
        intro v' w2 hown' hgrow hnil
        rw [bytes_snoc1] at hown'
        have N2 := Lib.hid (show ¬ v' = .slice none 0 0 from hnil)
        have R2 := Lib.hid (grown_on hB.size hB HB1.out HO.out hgrow)
        have R1 := Lib.hid hown'
        clear hown' hgrow HO1 HO hnil
        go_wp2
        go_roundw
        case rel =>
          refine ⟨x.extract d x.size, t ++ [b], rfl, by simp; omega, by simp; omega, ?_, by simpa using R1.out, N2.out, R2.out⟩
          rw [ln_drop2]
          exact N1.out
        case measure => simp [sLen]; omega
end Go.Proofs.YtoafdacgekmomafDoor
