/-
  What is proved here: small words on a list of texts that a call gathers, and on its joining.
  What is proved here: what package rule's printList answers (contracts over the translation).
  What is proved here: what package rule's printUnless (a closure), printWeek and printDay answer (contracts over the translation); the words of weekdays are asked as a premise.
-/
import Derived.Test.YtpplfcfhjpfckaaGreatDoorRuleF
import Derived.Test.YtpplfcfhjpfckaaGreatDoorMem
import Derived.Test.YtpplfcfhjpfckaaGreatDoorQK
import Derived.OwnWalk
import Derived.Lib.Join
import Derived.Test.YtpplfcfhjpfckaaGreatDoorQC
import Derived.Test.YtpplfcfhjpfckaaGreatDoorQI
namespace Go.Proofs.YtpplfcfhjpfckaaGreatDoor
open Go.RowKit Cal Txt

theorem join_by (xs : List (List UInt8)) : Lib.join xs [44] = joinBy 44 xs := by
  induction xs with
  | nil => rfl
  | cons a r ih =>
    cases r with
    | nil => rw [Lib.join_one]; rfl
    | cons b r =>
      show _ = a ++ 44 :: joinBy 44 (b :: r)
      rw [← ih]
      simp [Lib.join, List.intercalate]
theorem join_len (c : UInt8) (k : Nat) : ∀ (xs : List (List UInt8)), (∀ x ∈ xs, x.length ≤ k) → (joinBy c xs).length ≤ xs.length * (k + 1)
  | [], _ => by simp [joinBy]
  | [a], h => by
    have := h a (by simp)
    show a.length ≤ 1 * (k + 1)
    omega
  | a :: b :: l, h => by
    have h1 := h a (by simp)
    have h2 := join_len c k (b :: l) (fun x hx => h x (by simp at hx ⊢; exact Or.inr hx))
    show (a ++ c :: joinBy c (b :: l)).length ≤ _
    rw [List.length_append, List.length_cons]
    have : (a :: b :: l).length * (k + 1) = (b :: l).length * (k + 1) + (k + 1) := by rw [List.length_cons, Nat.succ_mul]
    omega
/-- The first texts of a list. -/
def gat {α : Type} (tx : α → List UInt8) (l : List α) (k : Nat) : List ByteArray := (l.take k).map fun x => tb (tx x)
theorem gat_len {α : Type} (tx : α → List UInt8) (l : List α) (k : Nat) (h : k ≤ l.length) : (gat tx l k).length = k := by unfold gat; rw [List.length_map, List.length_take]; omega
theorem gat_next {α : Type} (tx : α → List UInt8) (l : List α) (k : Nat) (d : α) (h : k < l.length) : gat tx l (k + 1) = gat tx l k ++ [tb (tx (l.getD k d))] := by
  unfold gat
  rw [List.take_succ_eq_append_getElem h, List.map_append, List.getD_eq_getElem?_getD, List.getElem?_eq_getElem h]; rfl
theorem gat_all {α : Type} (tx : α → List UInt8) (l : List α) : (gat tx l l.length).map (·.data.toList) = l.map tx := by
  unfold gat
  rw [List.take_length, List.map_map]
  exact List.map_congr_left (fun x _ => tb_data _)
/-- strconv.Itoa of any number. -/
theorem itoa_nt (n : Int) (w : World) (hP : Pow w) (h0 : -9223372036854775808 ≤ n) (h1 : n ≤ 9223372036854775807) :
    Calls Tryz.prog 88 #[.int .i64 n] w fun e w' => e = .returned (.string (tb (nt n))) ∧ Below w.heap.size w w' := by
  refine (Tryz.strconv_Itoa n h0 h1 w hP).mono ?_
  rintro e w' ⟨rfl, k, os, rfl⟩
  refine ⟨?_, below_grew w k os⟩
  have : Lib.itoa n = nt n := by
    unfold Lib.itoa nt
    by_cases h : n < 0
    · rw [if_pos h, if_pos h]
    · rw [if_neg h, if_neg h, show n.toNat = n.natAbs by omega]
  rw [this]; rfl
theorem join_nil0 (a : Option Addr) (c : Nat) (w : World) : Calls Tryz.prog 87 #[.slice a 0 c, .string ⟨#[44]⟩] w fun e w' => e = .returned (.string ⟨#[]⟩) ∧ w' = w := Any.strings_Join_none Tryz.lays156 Tryz.Builder_Extra_156 a c _ w
theorem join_any {α : Type} (tx : α → List UInt8) (l : List α) (g n c : Nat) (w : World) (hl : l.length = n) (hb : n ≤ 100) (hs : ∀ x ∈ l, (tx x).length ≤ 30) (hcells : ∀ (j : Nat) x, (gat tx l n)[j]? = some x → w.cell? ⟨g, 0 + j, none⟩ = some (.string x)) (hg : g < w.heap.size) (hc : n ≤ c) :
    Calls Tryz.prog 87 #[.slice (some ⟨g, 0, none⟩) n c, .string ⟨#[44]⟩] w fun e w' => e = .returned (.string (tb (lt tx l))) ∧ Below w.heap.size w w' := by
  subst hl
  have e1 : Lib.join ((gat tx l l.length).map (·.data.toList)) [44] = lt tx l := by rw [gat_all, join_by]; rfl
  have e2 : (lt tx l).length ≤ 100 * 31 := by
    have := join_len 44 30 (l.map tx) (fun x hx => by obtain ⟨y, hy, rfl⟩ := List.mem_map.1 hx; exact hs y hy)
    rw [List.length_map] at this
    unfold lt
    have h2 : l.length * 31 ≤ 100 * 31 := Nat.mul_le_mul_right _ hb
    omega
  have h := Tryz.strings_Join g 0 c (gat tx l l.length) ⟨#[44]⟩ w hcells hg (by rw [gat_len _ _ _ (Nat.le_refl _)]; omega) (by rw [gat_len _ _ _ (Nat.le_refl _)]; exact hc) (by show (Lib.join _ [44]).length ≤ _; rw [e1]; omega)
  rw [gat_len _ _ _ (Nat.le_refl _)] at h
  refine h.mono ?_
  rintro e w' ⟨rfl, hb⟩
  exact ⟨by show Ending.returned (.string ⟨(Lib.join _ [44]).toArray⟩) = _; rw [e1]; rfl, hb⟩
end Go.Proofs.YtpplfcfhjpfckaaGreatDoor
namespace Go.Proofs.YtpplfcfhjpfckaaGreatDoor
open Go.RowKit Cal Txt

set_option maxRecDepth 100000 in
set_option maxHeartbeats 2000000 in
theorem printList_int (g : FuncId) (tx : Int → List UInt8) (eg : ∀ args w, (callFunc g args).run Tryz.prog w = .ok (.enter g args) w) (v : Value) (l : List (Int)) (w : World) (hv : Ints w v l) (hl : l.length ≤ 100) (hs : ∀ x ∈ l, (tx x).length ≤ 30)
    (hg : ∀ (x : Int), x ∈ l → ∀ W, Below w.heap.size w W → Calls Tryz.prog g #[.int .i64 x] W fun e w' => e = .returned (.string (tb (tx x))) ∧ Below W.heap.size W w') :
    Calls Tryz.prog 135 #[v, .func (.func g) #[] #[]] w fun e w' => e = .returned (.string (tb (lt tx l))) ∧ Below w.heap.size w w' := by
  obtain ⟨i0, hi, hz0, hz1, hz2⟩ := info_parts info_str
  have HV := Lib.hid hv
  have HG := Lib.hid hg
  have HS := Lib.hid hs
  clear hg hs
  obtain ⟨a, cap, rfl, hc⟩ := hv
  rcases hc with rfl | ⟨b, off, rfl, hc⟩
  · go_enter Tryz.func135, Tryz.ntmps135
    go_wp2_with (at_make; refine wpList_make_own _ rfl _ _ 54 rfl w.heap.size 9 i0 (.string ByteArray.empty) 1 Tryz.underlying54 hi hz0 hz1 _ _ _ 0 rfl rfl (by simp) ?b2 ?b3 (Nat.le_refl _) ?_)
    case b2 => rw [hz2]; omega
    case b3 => unfold maxLen; omega
    intro w0 hown0 hgrow0
    have hB0 : Below w.heap.size w w0 := (Below.refl _ _).grown hgrow0 (Nat.le_refl _) (fun k h => by cases h)
    clear hown0 hgrow0
    go_wp2
    go_loop [5, 13] (fun v i => v = .slice (some ⟨w.heap.size, 0, none⟩) 0 0 ∧ i = .int .i64 0) (fun _ _ => 0)
    case atStart => exact ⟨rfl, rfl⟩
    case round =>
      obtain ⟨rfl, rfl⟩ := hrel
      go_wp2_with fail
      refine (join_nil0 _ _ _).mono ?_
      rintro e w2 ⟨rfl, hw⟩
      subst hw
      go_wp2
      go_ret
      exact ⟨rfl, hB0⟩
  · clear hc
    go_enter Tryz.func135, Tryz.ntmps135
    go_wp2_with (at_make; refine wpList_make_own _ rfl _ _ 54 rfl w.heap.size 9 i0 (.string ByteArray.empty) 1 Tryz.underlying54 hi hz0 hz1 _ _ _ l.length rfl rfl rfl ?b2 ?b3 (Nat.le_refl _) ?_)
    case b2 => rw [hz2]; omega
    case b3 => unfold maxLen; omega
    intro w0 hown0 hgrow0
    have hB0 : Below w.heap.size w w0 := (Below.refl _ _).grown hgrow0 (Nat.le_refl _) (fun k h => by cases h)
    have HB0 := Lib.hid hB0
    have HO0 := Lib.hid hown0
    clear hown0 hgrow0 hB0
    go_wp2
    go_loopw [5, 13] (fun v i wr => ∃ k : Nat, k ≤ l.length ∧ i = .int .i64 k ∧ wr.ownsRow w.heap.size 9 1 v k (strs (gat tx l k)) ∧ Below w.heap.size w wr) (fun _ i _ => l.length - (intOf i).toNat)
    case atStart => exact ⟨0, Nat.zero_le _, rfl, HO0.out, HB0.out⟩
    case round =>
      clear HO0 HB0
      obtain ⟨k, hk, rfl, hown, hB⟩ := hrel
      have HO := Lib.hid hown
      clear hown
      by_cases hlt : k < l.length
      · obtain ⟨a', c', e', hc⟩ := HV.out.on hB
        rcases hc with hc | ⟨b', off', ea, hc⟩
        · rw [hc] at hlt; simp at hlt
        obtain ⟨⟨rfl, rfl⟩, rfl⟩ : (b = b' ∧ off = off') ∧ cap = c' := by simpa [ea] using e'
        have ck := hc k hlt
        obtain ⟨x, hx⟩ : ∃ x, x = l.getD k 0 := ⟨_, rfl⟩
        have hmem : x ∈ l := by rw [hx, List.getD_eq_getElem?_getD, List.getElem?_eq_getElem hlt]; exact List.getElem_mem hlt
        rw [← hx] at ck
        have HX := Lib.hid hx
        have HM := Lib.hid hmem
        clear hx hc ea e' hmem
        go_wp2_with fail
        refine (HG.out x HM.out _ hB).mono ?_
        rintro e w1 ⟨rfl, hb⟩
        have hx0 : Below wr.heap.size wr w1 := hb
        clear hb
        have HX0 := Lib.hid hx0
        have HO1 := Lib.hid (own_below HO.out hx0)
        have sz : w.heap.size ≤ w1.heap.size := by have := hx0.size; have := hB.size; omega
        clear hx0
        go_wp2_with (at_builtin; refine wpList_append_own _ rfl _ _ 54 rfl w.heap.size 9 i0 (.string ByteArray.empty) 1 16 Tryz.underlying54 hi hz0 hz1 hz2 rfl (by decide) _ _ _ rfl (HO1.out.alloc _) ⟨w1.heap.size, 0, none⟩ 1 1 [.string (tb (tx x))] rfl rfl ?c1 ?c2 ?c3 ?c4 ?c5 ?_)
        case c1 =>
          intro j u hj
          match j, hj with
          | 0, hj => simp at hj; subst hj; simp [Addr.add]
        case c2 => intro u hu; simp at hu; subst hu; rfl
        case c3 => unfold maxLen; omega
        case c4 => omega
        case c5 => simp; omega
        intro v' w2 hown' hgrow _
        have R := own_next hB.size hB HX0.out HO.out hown' hgrow
        have N1 := Lib.hid (gat_next tx l k 0 hlt)
        rw [← HX.out] at N1
        have R1 := Lib.hid R.1
        have R2 := Lib.hid R.2
        rw [← N1.out] at R1
        clear R hown' hgrow HO1 HO HX0 N1
        go_wp2
        go_roundw
        case rel => exact ⟨k + 1, by omega, by go_num, R1.out, R2.out⟩
        case measure => simp [intOf]; omega
      · have hkl : k = l.length := by omega
        subst hkl
        rcases Nat.eq_zero_or_pos l.length with h0 | h0
        · have : l = [] := List.eq_nil_of_length_eq_zero h0
          subst this
          rcases HO.out.2 with ⟨hv, _⟩ | ⟨g1, cap1, cur, hv, hbs, hg1, hcp, _⟩
          · subst hv
            go_wp2_with fail
            refine (join_nil0 none 0 _).mono ?_
            rintro e w2 ⟨rfl, hw⟩
            subst hw
            go_wp2
            go_ret
            exact ⟨rfl, hB⟩
          · subst hv
            go_wp2_with fail
            refine (join_nil0 _ _ _).mono ?_
            rintro e w2 ⟨rfl, hw⟩
            subst hw
            go_wp2
            go_ret
            exact ⟨rfl, hB⟩
        · obtain ⟨g1, cap1, hv, hg1, hcp, hcells⟩ := own_texts HO.out h0
          subst hv
          have HC := Lib.hid hcells
          clear hcells
          go_wp2_with fail
          refine (join_any tx l g1 l.length cap1 _ rfl (by omega) HS.out HC.out hg1 hcp).mono ?_
          rintro e w2 ⟨rfl, hb⟩
          have hB2 := hB.trans (hb.mono hB.size)
          go_wp2
          go_ret
          exact ⟨rfl, hB2⟩
set_option maxRecDepth 100000 in
set_option maxHeartbeats 2000000 in
theorem printList_nth (g : FuncId) (tx : Int × Int → List UInt8) (eg : ∀ args w, (callFunc g args).run Tryz.prog w = .ok (.enter g args) w) (v : Value) (l : List (Int × Int)) (w : World) (hv : Nths w v l) (hl : l.length ≤ 100) (hs : ∀ x ∈ l, (tx x).length ≤ 30)
    (hg : ∀ (x : Int × Int), x ∈ l → ∀ W, Below w.heap.size w W → Calls Tryz.prog g #[.agg #[.int .i64 x.1, .int .i64 x.2]] W fun e w' => e = .returned (.string (tb (tx x))) ∧ Below W.heap.size W w') :
    Calls Tryz.prog 136 #[v, .func (.func g) #[] #[]] w fun e w' => e = .returned (.string (tb (lt tx l))) ∧ Below w.heap.size w w' := by
  obtain ⟨i0, hi, hz0, hz1, hz2⟩ := info_parts info_str
  have HV := Lib.hid hv
  have HG := Lib.hid hg
  have HS := Lib.hid hs
  clear hg hs
  obtain ⟨a, cap, rfl, hc⟩ := hv
  rcases hc with rfl | ⟨b, off, rfl, hc⟩
  · go_enter Tryz.func136, Tryz.ntmps136
    go_wp2_with (at_make; refine wpList_make_own _ rfl _ _ 54 rfl w.heap.size 9 i0 (.string ByteArray.empty) 1 Tryz.underlying54 hi hz0 hz1 _ _ _ 0 rfl rfl (by simp) ?b2 ?b3 (Nat.le_refl _) ?_)
    case b2 => rw [hz2]; omega
    case b3 => unfold maxLen; omega
    intro w0 hown0 hgrow0
    have hB0 : Below w.heap.size w w0 := (Below.refl _ _).grown hgrow0 (Nat.le_refl _) (fun k h => by cases h)
    clear hown0 hgrow0
    go_wp2
    go_loop [5, 13] (fun v i => v = .slice (some ⟨w.heap.size, 0, none⟩) 0 0 ∧ i = .int .i64 0) (fun _ _ => 0)
    case atStart => exact ⟨rfl, rfl⟩
    case round =>
      obtain ⟨rfl, rfl⟩ := hrel
      go_wp2_with fail
      refine (join_nil0 _ _ _).mono ?_
      rintro e w2 ⟨rfl, hw⟩
      subst hw
      go_wp2
      go_ret
      exact ⟨rfl, hB0⟩
  · clear hc
    go_enter Tryz.func136, Tryz.ntmps136
    go_wp2_with (at_make; refine wpList_make_own _ rfl _ _ 54 rfl w.heap.size 9 i0 (.string ByteArray.empty) 1 Tryz.underlying54 hi hz0 hz1 _ _ _ l.length rfl rfl rfl ?b2 ?b3 (Nat.le_refl _) ?_)
    case b2 => rw [hz2]; omega
    case b3 => unfold maxLen; omega
    intro w0 hown0 hgrow0
    have hB0 : Below w.heap.size w w0 := (Below.refl _ _).grown hgrow0 (Nat.le_refl _) (fun k h => by cases h)
    have HB0 := Lib.hid hB0
    have HO0 := Lib.hid hown0
    clear hown0 hgrow0 hB0
    go_wp2
    go_loopw [5, 13] (fun v i wr => ∃ k : Nat, k ≤ l.length ∧ i = .int .i64 k ∧ wr.ownsRow w.heap.size 9 1 v k (strs (gat tx l k)) ∧ Below w.heap.size w wr) (fun _ i _ => l.length - (intOf i).toNat)
    case atStart => exact ⟨0, Nat.zero_le _, rfl, HO0.out, HB0.out⟩
    case round =>
      clear HO0 HB0
      obtain ⟨k, hk, rfl, hown, hB⟩ := hrel
      have HO := Lib.hid hown
      clear hown
      by_cases hlt : k < l.length
      · obtain ⟨a', c', e', hc⟩ := HV.out.on hB
        rcases hc with hc | ⟨b', off', ea, hc⟩
        · rw [hc] at hlt; simp at hlt
        obtain ⟨⟨rfl, rfl⟩, rfl⟩ : (b = b' ∧ off = off') ∧ cap = c' := by simpa [ea] using e'
        have ck := hc k hlt
        obtain ⟨x, hx⟩ : ∃ x, x = l.getD k (0, 0) := ⟨_, rfl⟩
        have hmem : x ∈ l := by rw [hx, List.getD_eq_getElem?_getD, List.getElem?_eq_getElem hlt]; exact List.getElem_mem hlt
        rw [← hx] at ck
        obtain ⟨ck1, ck2⟩ := ck
        have HX := Lib.hid hx
        have HM := Lib.hid hmem
        clear hx hc ea e' hmem
        go_wp2_with fail
        refine (HG.out x HM.out _ (hB.alloc hB.size _)).mono ?_
        rintro e w1 ⟨rfl, hb⟩
        have hx0 : Below wr.heap.size wr w1 := ((Below.refl _ _).alloc (Nat.le_refl _) _).trans (hb.mono (by simp))
        clear hb
        have HX0 := Lib.hid hx0
        have HO1 := Lib.hid (own_below HO.out hx0)
        have sz : w.heap.size ≤ w1.heap.size := by have := hx0.size; have := hB.size; omega
        clear hx0
        go_wp2_with (at_builtin; refine wpList_append_own _ rfl _ _ 54 rfl w.heap.size 9 i0 (.string ByteArray.empty) 1 16 Tryz.underlying54 hi hz0 hz1 hz2 rfl (by decide) _ _ _ rfl (HO1.out.alloc _) ⟨w1.heap.size, 0, none⟩ 1 1 [.string (tb (tx x))] rfl rfl ?c1 ?c2 ?c3 ?c4 ?c5 ?_)
        case c1 =>
          intro j u hj
          match j, hj with
          | 0, hj => simp at hj; subst hj; simp [Addr.add]
        case c2 => intro u hu; simp at hu; subst hu; rfl
        case c3 => unfold maxLen; omega
        case c4 => omega
        case c5 => simp; omega
        intro v' w2 hown' hgrow _
        have R := own_next hB.size hB HX0.out HO.out hown' hgrow
        have N1 := Lib.hid (gat_next tx l k (0, 0) hlt)
        rw [← HX.out] at N1
        have R1 := Lib.hid R.1
        have R2 := Lib.hid R.2
        rw [← N1.out] at R1
        clear R hown' hgrow HO1 HO HX0 N1
        go_wp2
        go_roundw
        case rel => exact ⟨k + 1, by omega, by go_num, R1.out, R2.out⟩
        case measure => simp [intOf]; omega
      · have hkl : k = l.length := by omega
        subst hkl
        rcases Nat.eq_zero_or_pos l.length with h0 | h0
        · have : l = [] := List.eq_nil_of_length_eq_zero h0
          subst this
          rcases HO.out.2 with ⟨hv, _⟩ | ⟨g1, cap1, cur, hv, hbs, hg1, hcp, _⟩
          · subst hv
            go_wp2_with fail
            refine (join_nil0 none 0 _).mono ?_
            rintro e w2 ⟨rfl, hw⟩
            subst hw
            go_wp2
            go_ret
            exact ⟨rfl, hB⟩
          · subst hv
            go_wp2_with fail
            refine (join_nil0 _ _ _).mono ?_
            rintro e w2 ⟨rfl, hw⟩
            subst hw
            go_wp2
            go_ret
            exact ⟨rfl, hB⟩
        · obtain ⟨g1, cap1, hv, hg1, hcp, hcells⟩ := own_texts HO.out h0
          subst hv
          have HC := Lib.hid hcells
          clear hcells
          go_wp2_with fail
          refine (join_any tx l g1 l.length cap1 _ rfl (by omega) HS.out HC.out hg1 hcp).mono ?_
          rintro e w2 ⟨rfl, hb⟩
          have hB2 := hB.trans (hb.mono hB.size)
          go_wp2
          go_ret
          exact ⟨rfl, hB2⟩
end Go.Proofs.YtpplfcfhjpfckaaGreatDoor
namespace Go.Proofs.YtpplfcfhjpfckaaGreatDoor
open Go.RowKit Cal Txt

theorem cell_lt {w : World} {b o : Nat} {v : Value} (h : w.cell? ⟨b, o, none⟩ = some v) : b < w.heap.size := by
  rcases Nat.lt_or_ge b w.heap.size with g | g
  · exact g
  · simp [World.cell?, Array.getElem?_eq_none g] at h
theorem tb_app (a b : List UInt8) : tb (a ++ b) = tb a ++ tb b := (ba_app a b).symm
theorem tb_size (a : List UInt8) : (tb a).size = a.length := by simp [tb, ByteArray.size]
theorem ret_strNil2 {a b : ByteArray} (h : a = b) : Ending.returned (.tuple #[.string a, .nilIface]) = .returned (.tuple #[.string b, .nilIface]) := by rw [h]
/-- A number as text, or nothing where it is the usual one. -/
def unt (n usual : Int) : List UInt8 := if n = usual then [] else nt n
theorem unless_any (n usual : Int) (w : World) (hP : Pow w) (h0 : -9223372036854775808 ≤ n) (h1 : n ≤ 9223372036854775807) :
    Calls Tryz.prog 134 #[.int .i64 n, .int .i64 usual] w fun e w' => e = .returned (.string (tb (unt n usual))) ∧ Below w.heap.size w w' := by
  by_cases h : n = usual
  · have e1 : (n == usual) = true := by simp [h]
    have N1 : Hid (unt n usual = []) := Lib.hid (if_pos h)
    clear h
    go_enter Tryz.func134, Tryz.ntmps134
    go_wp2
    go_ret
    exact ⟨ret_ba (by rw [N1.out]; rfl), Below.refl _ _⟩
  · have e1 : (n == usual) = false := by simp [h]
    have N1 : Hid (unt n usual = nt n) := Lib.hid (if_neg h)
    clear h
    go_enter Tryz.func134, Tryz.ntmps134
    go_wp2_with fail
    refine (itoa_nt n _ hP h0 h1).mono ?_
    rintro e w1 ⟨rfl, hb⟩
    go_wp2
    go_ret
    exact ⟨ret_ba (by rw [N1.out]), hb⟩
/-- The words of weekdays lie as their text lays them. -/
def WdW (w : World) : Prop := ∀ k : Nat, k < 7 → w.cell? ⟨7, k, none⟩ = some (.string (tb (dn (k + 1))))
theorem WdW.below {w w' : World} (h : WdW w) (b : Below w.heap.size w w') : WdW w' := fun k hk => by
  have := h k hk
  have hb : 7 < w.heap.size := by
    rcases Nat.lt_or_ge 7 w.heap.size with g | g
    · exact g
    · simp [World.cell?, Array.getElem?_eq_none g] at this
  exact (b.cell (p := ⟨7, k, none⟩) hb).trans this
set_option maxRecDepth 100000 in
set_option maxHeartbeats 2000000 in
theorem printWeek_any (x : Int × Int) (w : World) (hP : Pow w) (hW : WdW w) (h1 : 1 ≤ x.2) (h7 : x.2 ≤ 7) (h0 : -5 ≤ x.1) (h5 : x.1 ≤ 5) :
    Calls Tryz.prog 137 #[.agg #[.int .i64 x.1, .int .i64 x.2]] w fun e w' => e = .returned (.string (tb (wt x))) ∧ Below w.heap.size w w' := by
  obtain ⟨n, k⟩ := x
  dsimp only at h1 h7 h0 h5 ⊢
  have B0 : Below w.heap.size w (w.alloc (.cells #[.int .i64 n, .int .i64 k] 109)) := (Below.refl _ _).alloc (Nat.le_refl _) _
  have T0 := Lib.hid (Two.new w n k 109)
  have HB := Lib.hid B0
  have HP := Lib.hid (hP.below B0)
  have cw : w.cell? ⟨7, k.toNat - 1, none⟩ = some (.string (tb (dn k))) := by
    have := hW (k.toNat - 1) (by omega)
    rwa [show ((k.toNat - 1 : Nat) : Int) + 1 = k by omega] at this
  have gl : 7 < w.heap.size := cell_lt cw
  clear hP hW
  have i1 : (0 : Int) ≤ k - 1 := by omega
  have i2 : k - 1 < 7 := by omega
  by_cases hn : n = 0
  · have N1 : Hid (wt (n, k) = dn k) := Lib.hid (by unfold wt; rw [if_pos hn]; rfl)
    subst hn
    clear B0 HP T0
    go_enter Tryz.func137, Tryz.ntmps137
    go_wp2
    go_ret
    exact ⟨ret_ba (by rw [N1.out]), HB.out⟩
  · have N1 : Hid (tb (wt (n, k)) = tb (nt n) ++ tb (dn k)) := Lib.hid (by unfold wt; rw [if_neg hn, tb_app])
    have e1 : (n == 0) = false := by simp [hn]
    have n1 : ¬ 9223372036854775807 < (tb (nt n)).size + (tb (dn k)).size := by
      have d2 : (dn k).length = 2 := dn_len h1 h7
      have d3 : (nt n).length ≤ 10 := nt_len n (by omega) (by omega)
      rw [tb_size, tb_size]; omega
    have ck := (B0.cell (p := ⟨7, k.toNat - 1, none⟩) gl).trans cw
    clear hn B0 cw gl
    go_enter Tryz.func137, Tryz.ntmps137
    go_wp2_with fail
    obtain ⟨t0, t1⟩ := T0.out
    clear T0
    generalize w.alloc (.cells #[.int .i64 n, .int .i64 k] 109) = W at HB HP ck t0 t1 ⊢
    have r0 := cell_regrown t0
    have r1 := cell_regrown t1
    have r2 := cell_regrown ck
    have i4 : IntKind.i64.wrap (k - 1) = k - 1 := by rw [IntKind.wrap_i64]; omega
    refine wp_region_quiet_below (by kernel_rfl) (by kernel_rfl) ?_
    repeat (quiet_step ((go_at_call 88; exact Calls.regrown_of (itoa_nt _ _ (HP.out.below (below_regrown W _ _)) (by omega) (by omega)))))
    refine wpQuiet_nil ?_
    intro _ hw'
    obtain ⟨⟨dq, osq⟩, hw''⟩ := hw'
    subst hw''
    have hB2 := HB.out.trans ((below_regrown W dq osq).mono HB.out.size)
    generalize Sort.grow (redrawn W dq) osq = W3 at hB2 ⊢
    clear r0 r1 r2 t0 t1 ck HP HB
    go_wp2
    go_ret
    exact ⟨ret_ba N1.out.symm, hB2⟩
/-- A day's time, one minute behind its beginning. -/
theorem txt_day (n : Int) : txt ((n - 1) * 1440 + 1) = dt n ++ [32, 48, 48, 58, 48, 49] := by
  unfold txt
  rw [show ((n - 1) * 1440 + 1) / 1440 + 1 = n by omega, show ((n - 1) * 1440 + 1) % 1440 / 60 = 0 by omega, show ((n - 1) * 1440 + 1) % 60 = 1 by omega]
  unfold dt dt3 tmt
  simp [d2]
/-- A day as text, or nothing where there is none. -/
def dayt (n : Int) : List UInt8 := if n = 0 then [] else dt n
set_option maxRecDepth 100000 in
set_option maxHeartbeats 2000000 in
theorem printDay_any (n : Int) (w : World) (hT : Tab w) (hP : Pow w) (h0 : 0 ≤ n) (h2 : n ≤ 109573) :
    Calls Tryz.prog 114 #[.int .i64 n] w fun e w' => e = .returned (.tuple #[.string (tb (dayt n)), .nilIface]) ∧ Below w.heap.size w w' := by
  by_cases h : n = 0
  · subst h
    go_enter Tryz.func114, Tryz.ntmps114
    go_wp2
    go_ret2
    exact ⟨rfl, Below.refl _ _⟩
  · have N1 : Hid (dayt n = dt n) := Lib.hid (if_neg h)
    have b0 : (n == 0) = false := by simp [h]
    have TX := Lib.hid (txt_day n)
    have TS : Hid (Lib.trimSuffix (txt ((n - 1) * 1440 + 1)) [32, 48, 48, 58, 48, 49] = dt n) := Lib.hid (by
      rw [TX.out]
      unfold Lib.trimSuffix
      have e1 : Lib.hasSuffix (dt n ++ [32, 48, 48, 58, 48, 49]) [32, 48, 48, 58, 48, 49] = true := by simp [Lib.hasSuffix]
      rw [if_pos e1]
      simp)
    have LS : Hid ((txt ((n - 1) * 1440 + 1)).length ≤ 100) := Lib.hid (by rw [TX.out]; simp [dt, dt3_len])
    have hn1 : 1 ≤ n := by omega
    clear h
    go_enter Tryz.func114, Tryz.ntmps114
    go_wp2_with fail
    refine (print_yes ((n - 1) * 1440 + 1) _ hT hP (by omega) (by omega)).mono ?_
    rintro e w1 ⟨rfl, hb⟩
    go_wp2_with fail
    refine (Tryz.strings_TrimSuffix _ ⟨#[32, 48, 48, 58, 48, 49]⟩ _ (by show (List.toArray _).size ≤ _; have := LS.out; simp; omega)).mono ?_
    rintro e w2 ⟨rfl, hw⟩
    subst hw
    go_wp2
    go_ret2
    exact ⟨ret_strNil2 (by show (⟨(Lib.trimSuffix (txt ((n - 1) * 1440 + 1)) [32, 48, 48, 58, 48, 49]).toArray⟩ : ByteArray) = _; rw [TS.out, N1.out]; rfl), hb⟩
end Go.Proofs.YtpplfcfhjpfckaaGreatDoor
