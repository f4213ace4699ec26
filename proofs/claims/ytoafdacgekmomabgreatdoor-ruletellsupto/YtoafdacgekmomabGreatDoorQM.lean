/-
  What is proved here: what the document's digits, ReadDate and Read answer, for every text (contracts over the translation).
  What is proved here: what the document's ReadDate and Read answer, for every text, and that clock.Parse answers the same (contracts over the translation).
-/
import Derived.Test.YtoafdacgekmomabGreatDoorQK
namespace Go.Proofs.YtoafdacgekmomabGreatDoor
open Go.RowKit Cal Txt

/-- Are the bytes between two places digits? -/
def dgs (l : List UInt8) (a b : Nat) : Bool := ((l.drop a).take (b - a)).all isDg
theorem dgs_iff {l : List UInt8} {a b : Nat} : dgs l a b = true ↔ ∀ c ∈ (l.drop a).take (b - a), isDg c = true := by
  unfold dgs; rw [List.all_eq_true]
theorem part_snoc (l : List UInt8) (a k : Nat) (ha : a ≤ k) (hk : k < l.length) : (l.drop a).take (k + 1 - a) = (l.drop a).take (k - a) ++ [l[k]] := by
  have h : k - a < (l.drop a).length := by rw [List.length_drop]; omega
  rw [show k + 1 - a = (k - a) + 1 by omega, List.take_succ_eq_append_getElem h, List.getElem_drop]
  congr 3; omega
set_option maxHeartbeats 1000000 in
theorem digits_yes (s : ByteArray) (a b : Nat) (w : World) (hab : a ≤ b) (hb : b ≤ s.size) (h9 : b - a ≤ 9) (hz : s.size ≤ 16) (hd : dgs s.data.toList a b = true) :
    Calls Tryz.prog 58 #[.string s, .int .i64 a, .int .i64 b] w fun e w' => e = .returned (.tuple #[.int .i64 (nm s.data.toList a b), .bool true]) ∧ w' = w := by
  have DG := Lib.hid (dgs_iff.1 hd)
  clear hd
  go_enter Tryz.func58, Tryz.ntmps58
  go_wp2
  go_loop [8, 9] (fun n i => ∃ k : Nat, a ≤ k ∧ k ≤ b ∧ i = .int .i64 k ∧ n = .int .i64 (nm s.data.toList a k)) (fun _ i => b - (intOf i).toNat)
  case atStart => exact ⟨a, Nat.le_refl _, hab, rfl, by simp [nm, val]⟩
  case round =>
    obtain ⟨k, k1, k2, rfl, rfl⟩ := hrel
    by_cases hlt : k < b
    · have hk : k < s.size := by omega
      have sn := part_snoc s.data.toList a k k1 (by rw [size_len]; exact hk)
      have sub : ∀ c ∈ (s.data.toList.drop a).take (k + 1 - a), isDg c = true := fun c hc => DG.out c (List.take_subset_take_left _ (by omega) hc)
      have hc := isDg_iff.1 (sub s[k] (by rw [sn]; exact List.mem_append_right _ (List.mem_singleton.2 rfl)))
      have c1 : (48 : Int) ≤ s[k].toNat := by omega
      have c2 : (s[k].toNat : Int) ≤ 57 := by omega
      have vb : nm s.data.toList a k ≤ 999999999 := by
        unfold nm
        refine val_le9 _ (fun c hc => sub c (by rw [sn]; exact List.mem_append_left _ hc)) ?_
        rw [List.length_take]; omega
      have HS : Hid (nm s.data.toList a (k + 1) = nm s.data.toList a k * 10 + (s[k].toNat - 48)) := by
        unfold nm; rw [sn]; exact val_snoc _ _
      clear hc sub sn
      go_wp2
      go_round
      case rel => exact ⟨k + 1, by omega, by omega, by go_num, by rw [HS.out]; go_num⟩
      case measure => simp [intOf]; omega
    · have hk : k = b := by omega
      subst hk
      go_wp2
      go_ret2
      exact ⟨rfl, rfl⟩
set_option maxHeartbeats 1000000 in
theorem digits_no (s : ByteArray) (a b : Nat) (w : World) (hab : a ≤ b) (hb : b ≤ s.size) (h9 : b - a ≤ 9) (hz : s.size ≤ 16) (hd : dgs s.data.toList a b = false) :
    Calls Tryz.prog 58 #[.string s, .int .i64 a, .int .i64 b] w fun e w' => e = .returned (.tuple #[.int .i64 0, .bool false]) ∧ w' = w := by
  have HD := Lib.hid hd
  clear hd
  go_enter Tryz.func58, Tryz.ntmps58
  go_wp2
  go_loop [8, 9] (fun n i => ∃ k : Nat, a ≤ k ∧ k ≤ b ∧ i = .int .i64 k ∧ n = .int .i64 (nm s.data.toList a k) ∧ dgs s.data.toList a k = true) (fun _ i => b - (intOf i).toNat)
  case atStart => exact ⟨a, Nat.le_refl _, hab, rfl, by simp [nm, val], by simp [dgs]⟩
  case round =>
    obtain ⟨k, k1, k2, rfl, rfl, hk3⟩ := hrel
    have K3 := Lib.hid hk3
    clear hk3
    by_cases hlt : k < b
    · have hk : k < s.size := by omega
      have sn := part_snoc s.data.toList a k k1 (by rw [size_len]; exact hk)
      by_cases c1 : (48 : Int) ≤ s[k].toNat
      · by_cases c2 : (s[k].toNat : Int) ≤ 57
        · have vb : nm s.data.toList a k ≤ 999999999 := by
            unfold nm
            refine val_le9 _ (dgs_iff.1 K3.out) ?_
            rw [List.length_take]; omega
          have HS : Hid (nm s.data.toList a (k + 1) = nm s.data.toList a k * 10 + (s[k].toNat - 48)) := by
            unfold nm; rw [sn]; exact val_snoc _ _
          have K4 : Hid (dgs s.data.toList a (k + 1) = true) := by
            refine dgs_iff.2 fun c hc => ?_
            rw [sn] at hc
            rcases List.mem_append.1 hc with q | q
            · exact dgs_iff.1 K3.out c q
            · rw [List.mem_singleton.1 q]
              exact isDg_iff.2 (by show 48 ≤ (s[k]).toNat ∧ (s[k]).toNat ≤ 57; omega)
          clear sn
          go_wp2
          go_round
          case rel => exact ⟨k + 1, by omega, by omega, by go_num, by rw [HS.out]; go_num, K4.out⟩
          case measure => simp [intOf]; omega
        · have c2' : (57 : Int) < s[k].toNat := by omega
          clear sn
          go_wp2
          go_ret2
          exact ⟨rfl, rfl⟩
      · have c1' : (s[k].toNat : Int) < 48 := by omega
        clear sn
        go_wp2
        go_ret2
        exact ⟨rfl, rfl⟩
    · exfalso
      have hk : k = b := by omega
      subst hk
      have := K3.out
      rw [HD.out] at this
      cases this
end Go.Proofs.YtoafdacgekmomabGreatDoor
namespace Go.Proofs.YtoafdacgekmomabGreatDoor
open Go.RowKit Cal Txt

/-- The number between two places; 0 where they are not all digits. -/
def dv (l : List UInt8) (a b : Nat) : Nat := if dgs l a b = true then nm l a b else 0
theorem digits_int (s : ByteArray) (a b : Nat) (ai bi : Int) (w : World) (hai : (a : Int) = ai) (hbi : (b : Int) = bi) (hab : a ≤ b) (hb : b ≤ s.size) (h9 : b - a ≤ 9) (hz : s.size ≤ 16) :
    Calls Tryz.prog 58 #[.string s, .int .i64 ai, .int .i64 bi] w fun e w' => e = .returned (.tuple #[.int .i64 (dv s.data.toList a b : Nat), .bool (dgs s.data.toList a b)]) ∧ w' = w := by
  subst hai hbi
  rcases hd : dgs s.data.toList a b with _ | _
  · have := digits_no s a b w hab hb h9 hz hd
    rw [show dv s.data.toList a b = 0 by unfold dv; rw [if_neg (by rw [hd]; decide)]]
    exact this
  · have := digits_yes s a b w hab hb h9 hz hd
    rw [show dv s.data.toList a b = nm s.data.toList a b by unfold dv; rw [if_pos hd]]
    exact this
theorem refOf_ex (y m d : Int) : ∃ v : Int, (okD y m d → v = num y m d ∧ 1 ≤ v) ∧ (¬ okD y m d → v = 0) ∧ 0 ≤ v ∧ v ≤ 109573 ∧
    ∀ w : World, Calls Tryz.prog 59 #[.agg #[.int .i64 y, .int .i64 m, .int .i64 d]] w fun e w' => e = .returned (.int .i64 v) ∧ Below w.heap.size w w' := by
  by_cases h : okD y m d
  · have nb := num_bd h
    exact ⟨num y m d, fun _ => ⟨rfl, nb.1⟩, fun q => absurd h q, by omega, nb.2, fun w => refOf_yes y m d w h⟩
  · exact ⟨0, fun q => absurd q h, fun _ => rfl, by omega, by omega, fun w => refOf_no y m d w h⟩
theorem getD_at (s : ByteArray) (k : Nat) (h : k < s.size) : s.data.toList.getD k 0 = s[k] := by
  rw [List.getD_eq_getElem?_getD, List.getElem?_eq_getElem (by simpa using h)]; rfl
/-- Has a text of ten bytes the form of a date? -/
def dfm (l : List UInt8) : Prop := l.getD 4 0 = 45 ∧ l.getD 7 0 = 45 ∧ dgs l 0 4 = true ∧ dgs l 5 7 = true ∧ dgs l 8 10 = true
set_option maxRecDepth 100000 in
set_option maxHeartbeats 2000000 in
theorem readDate_no (s : ByteArray) (w : World) (hz : s.size = 10) (h : ¬ dfm s.data.toList) :
    Calls Tryz.prog 29 #[.string s] w fun e w' => (∃ v : Int, e = .returned (.tuple #[.int .i64 v, .bool false])) ∧ Below w.heap.size w w' := by
  have h4 : 4 < s.size := by omega
  have h7 : 7 < s.size := by omega
  have hz2 : ((s.size : Int) != 10) = false := by rw [bne_eq_false_iff_eq]; omega
  by_cases q4 : s[4] = 45
  · have p4 : ((s[4].toNat : Int) != 45) = false := by rw [bne_eq_false_iff_eq, q4]; rfl
    by_cases q7 : s[7] = 45
    · have p7 : ((s[7].toNat : Int) != 45) = false := by rw [bne_eq_false_iff_eq, q7]; rfl
      have hc : dgs s.data.toList 0 4 = false ∨ (dgs s.data.toList 0 4 = true ∧ dgs s.data.toList 5 7 = false) ∨ (dgs s.data.toList 0 4 = true ∧ dgs s.data.toList 5 7 = true ∧ dgs s.data.toList 8 10 = false) := by
        rcases a : dgs s.data.toList 0 4 with _ | _
        · exact Or.inl rfl
        rcases b : dgs s.data.toList 5 7 with _ | _
        · exact Or.inr (Or.inl ⟨rfl, rfl⟩)
        rcases c : dgs s.data.toList 8 10 with _ | _
        · exact Or.inr (Or.inr ⟨rfl, rfl, rfl⟩)
        · exact absurd ⟨by rw [getD_at s 4 h4, q4], by rw [getD_at s 7 h7, q7], a, b, c⟩ h
      obtain ⟨v, _, _, _, _, hO⟩ := refOf_ex (dv s.data.toList 0 4 : Nat) (dv s.data.toList 5 7 : Nat) (dv s.data.toList 8 10 : Nat)
      have HO := Lib.hid hO
      have hz3 := hz
      clear h hO q4 q7
      rcases hc with a | ⟨a, b⟩ | ⟨a, b, c⟩
      all_goals
        go_enter Tryz.func29, Tryz.ntmps29
        go_wp2_with fail
        refine (digits_int s 0 4 0 4 _ rfl rfl (by omega) (by omega) (by omega) (by omega)).mono ?_
        rintro e w' ⟨rfl, hw⟩
        subst hw
        go_wp2_with fail
        refine (digits_int s 5 7 5 7 _ rfl rfl (by omega) (by omega) (by omega) (by omega)).mono ?_
        rintro e w' ⟨rfl, hw⟩
        subst hw
        go_wp2_with fail
        refine (digits_int s 8 10 8 10 _ rfl rfl (by omega) (by omega) (by omega) (by omega)).mono ?_
        rintro e w' ⟨rfl, hw⟩
        subst hw
        go_wp2_with fail
        refine (HO.out _).mono ?_
        rintro e w2 ⟨rfl, hb⟩
        go_wp2_with fail
        go_ret2
        exact ⟨⟨v, rfl⟩, hb⟩
    · have p7 : ((s[7].toNat : Int) != 45) = true := by rw [bne_iff_ne]; intro q; exact q7 ((byte_eq (c := 45) rfl).2 q)
      clear h q4 q7
      go_enter Tryz.func29, Tryz.ntmps29
      go_wp2
      go_ret2
      exact ⟨⟨0, rfl⟩, Below.refl _ _⟩
  · have p4 : ((s[4].toNat : Int) != 45) = true := by rw [bne_iff_ne]; intro q; exact q4 ((byte_eq (c := 45) rfl).2 q)
    clear h q4
    go_enter Tryz.func29, Tryz.ntmps29
    go_wp2
    go_ret2
    exact ⟨⟨0, rfl⟩, Below.refl _ _⟩
theorem ret_intB {a b : Int} {c : Bool} (h : a = b) : Ending.returned (.tuple #[.int .i64 a, .bool c]) = .returned (.tuple #[.int .i64 b, .bool c]) := by rw [h]
set_option maxRecDepth 100000 in
set_option maxHeartbeats 2000000 in
theorem readDate_yes (s : ByteArray) (v : Int) (w : World) (hz : s.size = 10) (h : dfm s.data.toList)
    (hO : ∀ w : World, Calls Tryz.prog 59 #[.agg #[.int .i64 (nm s.data.toList 0 4 : Nat), .int .i64 (nm s.data.toList 5 7 : Nat), .int .i64 (nm s.data.toList 8 10 : Nat)]] w fun e w' => e = .returned (.int .i64 v) ∧ Below w.heap.size w w') :
    Calls Tryz.prog 29 #[.string s] w fun e w' => e = .returned (.tuple #[.int .i64 v, .bool true]) ∧ Below w.heap.size w w' := by
  have h4 : 4 < s.size := by omega
  have h7 : 7 < s.size := by omega
  have hz2 : ((s.size : Int) != 10) = false := by rw [bne_eq_false_iff_eq]; omega
  obtain ⟨q4, q7, a, b, c⟩ := h
  rw [getD_at s 4 h4] at q4
  rw [getD_at s 7 h7] at q7
  have p4 : ((s[4].toNat : Int) != 45) = false := by rw [bne_eq_false_iff_eq, q4]; rfl
  have p7 : ((s[7].toNat : Int) != 45) = false := by rw [bne_eq_false_iff_eq, q7]; rfl
  have e1 : dv s.data.toList 0 4 = nm s.data.toList 0 4 := by unfold dv; rw [if_pos a]
  have e2 : dv s.data.toList 5 7 = nm s.data.toList 5 7 := by unfold dv; rw [if_pos b]
  have e3 : dv s.data.toList 8 10 = nm s.data.toList 8 10 := by unfold dv; rw [if_pos c]
  have HO := Lib.hid hO
  clear hO q4 q7
  go_enter Tryz.func29, Tryz.ntmps29
  go_wp2_with fail
  refine (digits_int s 0 4 0 4 _ rfl rfl (by omega) (by omega) (by omega) (by omega)).mono ?_
  rintro e w' ⟨rfl, hw⟩
  subst hw
  go_wp2_with fail
  refine (digits_int s 5 7 5 7 _ rfl rfl (by omega) (by omega) (by omega) (by omega)).mono ?_
  rintro e w' ⟨rfl, hw⟩
  subst hw
  go_wp2_with fail
  refine (digits_int s 8 10 8 10 _ rfl rfl (by omega) (by omega) (by omega) (by omega)).mono ?_
  rintro e w' ⟨rfl, hw⟩
  subst hw
  go_wp2_with fail
  refine (HO.out _).mono ?_
  rintro e w2 ⟨rfl, hb⟩
  go_wp2_with fail
  go_ret2
  exact ⟨rfl, hb⟩
/-! The first ten bytes of a text of sixteen. -/
theorem ten_list (s : ByteArray) : (s.extract 0 10).data.toList = s.data.toList.take 10 := by
  simp [ByteArray.data_extract]
theorem ten_size (s : ByteArray) (hz : s.size = 16) : (s.extract 0 10).size = 10 := by
  have : (s.extract 0 10).size = (s.extract 0 10).data.toList.length := rfl
  rw [this, ten_list, List.length_take, size_len]; omega
theorem ten_part (l : List UInt8) (a b : Nat) (hb : b ≤ 10) : ((l.take 10).drop a).take (b - a) = (l.drop a).take (b - a) := by
  rw [List.drop_take, List.take_take, Nat.min_eq_left (by omega)]
theorem ten_nm (l : List UInt8) (a b : Nat) (hb : b ≤ 10) : nm (l.take 10) a b = nm l a b := by unfold nm; rw [ten_part l a b hb]
theorem ten_dgs (l : List UInt8) (a b : Nat) (hb : b ≤ 10) : dgs (l.take 10) a b = dgs l a b := by unfold dgs; rw [ten_part l a b hb]
theorem ten_at (l : List UInt8) (k : Nat) (hk : k < 10) : (l.take 10).getD k 0 = l.getD k 0 := by
  rw [List.getD_eq_getElem?_getD, List.getD_eq_getElem?_getD, List.getElem?_take, if_pos hk]
theorem ten_dfm (l : List UInt8) : dfm (l.take 10) ↔ dfm l := by
  unfold dfm
  rw [ten_at l 4 (by omega), ten_at l 7 (by omega), ten_dgs l 0 4 (by omega), ten_dgs l 5 7 (by omega), ten_dgs l 8 10 (by omega)]
theorem fit_lit {f c : UInt8} (hf : f ≠ 48) : fit f c = true ↔ c = f := by
  unfold fit; rw [if_neg hf, beq_iff_eq]
theorem fit_dgt {c : UInt8} : fit 48 c = isDg c := by unfold fit; rw [if_pos rfl]
/-- The form, part by part. -/
theorem frm_split {l : List UInt8} (h : l.length = 16) : frm l = true ↔ l.getD 10 0 = 32 ∧ l.getD 13 0 = 58 ∧ dfm l ∧ dgs l 11 13 = true ∧ dgs l 14 16 = true := by
  obtain ⟨a, b, c, d, e, f, g, i, j, k, m, n, o, p, q, r, rfl⟩ := sixteen h
  constructor
  · intro hf
    obtain ⟨d1, d2, d3, d4, d5⟩ := frm_dg hf
    exact ⟨fit_is (by decide) (frm_at hf 10 (by decide)), fit_is (by decide) (frm_at hf 13 (by decide)),
      ⟨fit_is (by decide) (frm_at hf 4 (by decide)), fit_is (by decide) (frm_at hf 7 (by decide)), dgs_iff.2 d1, dgs_iff.2 d2, dgs_iff.2 d3⟩, dgs_iff.2 d4, dgs_iff.2 d5⟩
  · rintro ⟨h10, h13, ⟨h4, h7, g1, g2, g3⟩, g4, g5⟩
    have x1 := dgs_iff.1 g1
    have x2 := dgs_iff.1 g2
    have x3 := dgs_iff.1 g3
    have x4 := dgs_iff.1 g4
    have x5 := dgs_iff.1 g5
    change m = 32 at h10
    change p = 58 at h13
    change e = 45 at h4
    change i = 45 at h7
    subst h10 h13 h4 h7
    have t4 : fit 45 45 = true := by decide
    have t10 : fit 32 32 = true := by decide
    have t13 : fit 58 58 = true := by decide
    refine frm_mk rfl fun x hx => ?_
    have hcs : x = 0 ∨ x = 1 ∨ x = 2 ∨ x = 3 ∨ x = 4 ∨ x = 5 ∨ x = 6 ∨ x = 7 ∨ x = 8 ∨ x = 9 ∨ x = 10 ∨ x = 11 ∨ x = 12 ∨ x = 13 ∨ x = 14 ∨ x = 15 := by omega
    rcases hcs with rfl | rfl | rfl | rfl | rfl | rfl | rfl | rfl | rfl | rfl | rfl | rfl | rfl | rfl | rfl | rfl
    · exact fit_dg' (x1 a (by simp))
    · exact fit_dg' (x1 b (by simp))
    · exact fit_dg' (x1 c (by simp))
    · exact fit_dg' (x1 d (by simp))
    · exact t4
    · exact fit_dg' (x2 f (by simp))
    · exact fit_dg' (x2 g (by simp))
    · exact t4
    · exact fit_dg' (x3 j (by simp))
    · exact fit_dg' (x3 k (by simp))
    · exact t10
    · exact fit_dg' (x4 n (by simp))
    · exact fit_dg' (x4 o (by simp))
    · exact t13
    · exact fit_dg' (x5 q (by simp))
    · exact fit_dg' (x5 r (by simp))
end Go.Proofs.YtoafdacgekmomabGreatDoor
