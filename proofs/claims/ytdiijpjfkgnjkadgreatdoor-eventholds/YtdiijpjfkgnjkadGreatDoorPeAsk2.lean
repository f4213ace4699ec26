/-
  What is proved here: what package period's closures answer of a day's place, and what asked makes (contracts over the translation).
-/
import Derived.Test.YtdiijpjfkgnjkadGreatDoorPeAsk
import Derived.BigQuiet
import Derived.Lib.QuietBelow
import Derived.Shelf.Abstract
namespace Go.Proofs.YtdiijpjfkgnjkadGreatDoor
open Go.RowKit Cal Txt

/-- A rule lies in a block, its lists anywhere. -/
def RlBox (W : World) (b : Nat) (r : Rl) : Prop :=
  ∃ vm vd vw vp, RBox W b r.freq r.every r.count r.till vm vd vw vp ∧ Ints W vm r.months ∧ Ints W vd r.days ∧ Nths W vw r.weeks ∧ Ints W vp r.pick
theorem RlBox.on {W W' : World} {b : Nat} {r : Rl} (h : RlBox W b r) (q : Below W.heap.size W W') : RlBox W' b r := by
  obtain ⟨vm, vd, vw, vp, h0, h1, h2, h3, h4⟩ := h
  exact ⟨vm, vd, vw, vp, h0.on q, h1.on q, h2.on q, h3.on q, h4.on q⟩
theorem RlBox.lt {W : World} {b : Nat} {r : Rl} (h : RlBox W b r) : b < W.heap.size := by
  obtain ⟨_, _, _, _, h0, _⟩ := h
  exact h0.lt
/-- A rule's lists are short. -/
def Sm (r : Rl) : Prop := r.months.length ≤ 31 ∧ r.days.length ≤ 31 ∧ r.weeks.length ≤ 31
set_option maxRecDepth 100000 in
theorem ask1_any (r : Rl) (y m d l a x b z : Int) (g : Nat) (w : World) (hR : RlBox w g r) (hs : Sm r) :
    Calls Tryz.prog 141 #[.agg #[.int .i64 y, .int .i64 m, .int .i64 d, .int .i64 l, .int .i64 a, .int .i64 x, .int .i64 b, .int .i64 z], .pointer (some ⟨g, 0, none⟩)] w fun e w' => e = .returned (.bool (r.months.length == 0 || r.months.contains m)) ∧ Below w.heap.size w w' := by
  have B0 := (Below.refl w.heap.size w).alloc (Nat.le_refl _) (.cells #[.int .i64 y, .int .i64 m, .int .i64 d, .int .i64 l, .int .i64 a, .int .i64 x, .int .i64 b, .int .i64 z] 170)
  have ql := (hR.on B0).lt
  have gl := hR.lt
  obtain ⟨vm, vd, vw, vp, h0, h1, h2, h3, h4⟩ := hR
  have K := Lib.hid (contains_any vm r.months m _ (h1.on B0) (by have := hs.1; omega))
  obtain ⟨am, cm, rfl, hc⟩ := h1
  obtain ⟨q0, q1, q2, q3, q4, q5, q6, q7⟩ := h0
  have HB := Lib.hid B0
  clear B0 h2 h3 h4 hc
  rcases he : ((r.months.length : Int) == 0) with _ | _
  · have N1 : Hid ((r.months.length == 0) = false) := Lib.hid (by simp at he ⊢; omega)
    go_enter Tryz.func141, Tryz.ntmps141
    go_wp2_with fail
    refine K.out.mono ?_
    rintro e w1 ⟨rfl, hw⟩
    subst hw
    go_wp2
    go_ret
    exact ⟨ret_bool (by rw [N1.out, Bool.false_or, List.contains_eq_mem]), HB.out⟩
  · have N1 : Hid ((r.months.length == 0) = true) := Lib.hid (by simp at he ⊢; omega)
    go_enter Tryz.func141, Tryz.ntmps141
    go_wp2
    go_ret
    exact ⟨ret_bool (by rw [N1.out, Bool.true_or]), HB.out⟩
set_option maxRecDepth 100000 in
theorem ask2_any (r : Rl) (y m d l a x b z : Int) (g : Nat) (w : World) (hR : RlBox w g r) (hs : Sm r) (d0 : 1 ≤ d) (d1 : d ≤ 31) (l0 : 1 ≤ l) (l1 : l ≤ 31) :
    Calls Tryz.prog 143 #[.agg #[.int .i64 y, .int .i64 m, .int .i64 d, .int .i64 l, .int .i64 a, .int .i64 x, .int .i64 b, .int .i64 z], .pointer (some ⟨g, 0, none⟩)] w fun e w' => e = .returned (.bool (r.days.length == 0 || nameB r.days d l)) ∧ Below w.heap.size w w' := by
  have B0 := (Below.refl w.heap.size w).alloc (Nat.le_refl _) (.cells #[.int .i64 y, .int .i64 m, .int .i64 d, .int .i64 l, .int .i64 a, .int .i64 x, .int .i64 b, .int .i64 z] 170)
  have ql := (hR.on B0).lt
  have gl := hR.lt
  obtain ⟨vm, vd, vw, vp, h0, h1, h2, h3, h4⟩ := hR
  have K := Lib.hid (names_any vd r.days d l _ (h2.on B0) (by have := hs.2.1; omega) (by omega) (by omega) (by omega) (by omega))
  obtain ⟨ad, cd, rfl, hc⟩ := h2
  obtain ⟨q0, q1, q2, q3, q4, q5, q6, q7⟩ := h0
  have HB := Lib.hid B0
  clear B0 h1 h3 h4 hc
  rcases he : ((r.days.length : Int) == 0) with _ | _
  · have N1 : Hid ((r.days.length == 0) = false) := Lib.hid (by simp at he ⊢; omega)
    go_enter Tryz.func143, Tryz.ntmps143
    go_wp2_with fail
    refine K.out.mono ?_
    rintro e w1 ⟨rfl, hw⟩
    subst hw
    go_wp2
    go_ret
    exact ⟨ret_bool (by rw [N1.out, Bool.false_or]), HB.out⟩
  · have N1 : Hid ((r.days.length == 0) = true) := Lib.hid (by simp at he ⊢; omega)
    go_enter Tryz.func143, Tryz.ntmps143
    go_wp2
    go_ret
    exact ⟨ret_bool (by rw [N1.out, Bool.true_or]), HB.out⟩
/-- A place lies in a block. -/
def PlBox (W : World) (g : Nat) (a x b z : Int) : Prop := W.cell? ⟨g, 4, none⟩ = some (.int .i64 a) ∧ W.cell? ⟨g, 5, none⟩ = some (.int .i64 x) ∧ W.cell? ⟨g, 6, none⟩ = some (.int .i64 b) ∧ W.cell? ⟨g, 7, none⟩ = some (.int .i64 z)
set_option maxRecDepth 100000 in
theorem fits_any (n k a x b z u v : Int) (g h : Nat) (w : World) (h1 : Two w g u v) (h2 : PlBox w h a x b z) :
    Calls Tryz.prog 146 #[.agg #[.int .i64 n, .int .i64 k], .pointer (some ⟨g, 0, none⟩), .pointer (some ⟨h, 0, none⟩)] w fun e w' => e = .returned (.bool ((n == u && k == v) || (n == a && k == x) || (n == b && k == z))) ∧ Below w.heap.size w w' := by
  have B0 := (Below.refl w.heap.size w).alloc (Nat.le_refl _) (.cells #[.int .i64 n, .int .i64 k] 69)
  have HB := Lib.hid B0
  have gl := h1.lt
  have hl : h < w.heap.size := by
    have k := h2.1
    rcases Nat.lt_or_ge h w.heap.size with q | q
    · exact q
    · simp [World.cell?, Array.getElem?_eq_none q] at k
  obtain ⟨p0, p1⟩ := h1
  obtain ⟨q4, q5, q6, q7⟩ := h2
  clear B0
  go_enter Tryz.func146, Tryz.ntmps146
  clear HB
  go_wp2_with fail
  all_goals
    go_ret
    exact ⟨ret_bool (by clear p0 p1 q4 q5 q6 q7; simp_all), (Below.refl _ _).alloc (Nat.le_refl _) _⟩
/-- What is answered of where the first that fits stands. -/
def IdfA (l : List (Int × Int)) (p : Int × Int → Bool) (e : Ending) : Prop := ∃ i : Int, e = .returned (.int .i64 i) ∧ decide (i ≥ 0) = l.any p
theorem any_take {α : Type} (p : α → Bool) (l : List α) (k : Nat) (d : α) (h : k < l.length) (ha : (l.take k).any p = false) (hp : p (l.getD k d) = false) : (l.take (k + 1)).any p = false := by
  rw [List.getD_eq_getElem?_getD, List.getElem?_eq_getElem h] at hp
  rw [List.take_add_one, List.any_append, ha, List.getElem?_eq_getElem h]
  simpa using hp
theorem any_hit {α : Type} (p : α → Bool) (l : List α) (k : Nat) (d : α) (h : k < l.length) (hp : p (l.getD k d) = true) : l.any p = true := by
  rw [List.getD_eq_getElem?_getD, List.getElem?_eq_getElem h] at hp
  exact List.any_eq_true.2 ⟨_, List.getElem_mem h, hp⟩
set_option maxRecDepth 100000 in
set_option maxHeartbeats 1000000 in
theorem indexFunc_any (c1 c2 : Value) (I : World → Prop) (p : Int × Int → Bool) (hI : ∀ W W', I W → Below W.heap.size W W' → I W')
    (hG : ∀ (x : Int × Int) W, I W → Calls Tryz.prog 146 #[.agg #[.int .i64 x.1, .int .i64 x.2], c1, c2] W fun e w' => e = .returned (.bool (p x)) ∧ Below W.heap.size W w')
    (v : Value) (l : List (Int × Int)) (w : World) (hv : Nths w v l) (hw : I w) (hl : l.length ≤ 1000000) :
    Calls Tryz.prog 155 #[v, .func (.func 146) #[] #[c1, c2]] w fun e w' => IdfA l p e ∧ Below w.heap.size w w' := by
  have HV := Lib.hid hv
  have HI := Lib.hid hI
  have HG := Lib.hid hG
  have HW := Lib.hid hw
  obtain ⟨a, cap, rfl, hc⟩ := hv
  clear hI hG hw hc
  go_enter Tryz.func155, Tryz.ntmps155
  go_wp2
  go_loopw [8] (fun i wr => ∃ k : Nat, k ≤ l.length ∧ i = .int .i64 k ∧ (l.take k).any p = false ∧ Below w.heap.size w wr ∧ I wr) (fun i _ => l.length - (intOf i).toNat)
  case atStart => exact ⟨0, Nat.zero_le _, rfl, rfl, Below.refl _ _, HW.out⟩
  case round =>
    obtain ⟨k, hk, rfl, hF, hB, hi⟩ := hrel
    have HF := Lib.hid hF
    have HB := Lib.hid hB
    have HJ := Lib.hid hi
    clear hF hi
    by_cases hlt : k < l.length
    · obtain ⟨a', c', e', hc⟩ := HV.out.on hB
      obtain ⟨rfl, rfl⟩ : a = a' ∧ cap = c' := by simpa using e'
      rcases hc with hc | ⟨b, off, rfl, hc⟩
      · rw [hc] at hlt; simp at hlt
      obtain ⟨k1, k2⟩ := hc k hlt
      have KG := Lib.hid (HG.out (l.getD k (0, 0)) wr HJ.out)
      obtain ⟨X, hX⟩ : ∃ X, X = l.getD k (0, 0) := ⟨_, rfl⟩
      rw [← hX] at k1 k2 KG
      have HX := Lib.hid hX
      clear hX hc e' hB
      go_wp2_with fail
      refine KG.out.mono ?_
      rintro e w2 ⟨rfl, hb⟩
      have HJ2 := Lib.hid (HI.out _ _ HJ.out hb)
      have HB2 := Lib.hid (HB.out.trans (hb.mono HB.out.size))
      clear hb
      rcases hp : p X with _ | _
      · have N1 := Lib.hid (any_take p l k (0, 0) hlt HF.out (by rw [← HX.out]; exact hp))
        go_wp2
        go_roundw
        case rel => exact ⟨k + 1, by omega, by go_num, N1.out, HB2.out, HJ2.out⟩
        case measure => simp [intOf]; omega
      · have N1 := Lib.hid (any_hit p l k (0, 0) hlt (by rw [← HX.out]; exact hp))
        go_wp2
        go_ret
        exact ⟨⟨_, rfl, by rw [N1.out]; exact decide_eq_true (by omega)⟩, HB2.out⟩
    · have N1 : Hid (l.any p = false) := Lib.hid (by have := HF.out; rwa [List.take_of_length_le (by omega)] at this)
      go_wp2
      go_ret
      exact ⟨⟨_, rfl, by rw [N1.out]; decide⟩, HB.out⟩
theorem containsFunc_any (c1 c2 : Value) (I : World → Prop) (p : Int × Int → Bool) (hI : ∀ W W', I W → Below W.heap.size W W' → I W')
    (hG : ∀ (x : Int × Int) W, I W → Calls Tryz.prog 146 #[.agg #[.int .i64 x.1, .int .i64 x.2], c1, c2] W fun e w' => e = .returned (.bool (p x)) ∧ Below W.heap.size W w')
    (v : Value) (l : List (Int × Int)) (w : World) (hv : Nths w v l) (hw : I w) (hl : l.length ≤ 1000000) :
    Calls Tryz.prog 147 #[v, .func (.func 146) #[] #[c1, c2]] w fun e w' => e = .returned (.bool (l.any p)) ∧ Below w.heap.size w w' := by
  have K := Lib.hid (indexFunc_any c1 c2 I p hI hG v l w hv hw hl)
  obtain ⟨a, cap, rfl, hc⟩ := hv
  clear hI hG hw hc
  go_enter Tryz.func147, Tryz.ntmps147
  go_wp2_with fail
  refine K.out.mono ?_
  rintro e w1 ⟨⟨i, rfl, hi⟩, hb⟩
  have HI := Lib.hid hi
  clear hi
  go_wp2
  go_ret
  exact ⟨ret_bool (by rw [← HI.out]), hb⟩
end Go.Proofs.YtdiijpjfkgnjkadGreatDoor
