/-
  What is proved here: the two closures of busy.merge; how two stretches stand (contracts over the translation).
  What is proved here: what busy.merge answers of a list that is right (a contract over the translation).
-/
import Derived.Test.YtoncfgfjdlgfcaaGreatDoorBZR
import Derived.Shelf.GgSortFunc.RowK
import Derived.Sort.Grow
import Derived.Deep.CutBlock
namespace Go.Proofs.YtoncfgfjdlgfcaaGreatDoor.Bz
open Go.RowKit

/-- How two numbers stand. -/
def cmi (a b : Int) : Int := if a < b then -1 else if b < a then 1 else 0
theorem isNaN_any (x : Int) (w : World) : Calls Tryz.prog 112 #[.int .i64 x] w fun e w' => e = .returned (.bool false) ∧ w' = w := by
  go_enter Tryz.func112, Tryz.ntmps112
  go_wp2
  go_ret
  exact ⟨ret_bool (by simp), rfl⟩
theorem compare_any (a b : Int) (w : World) : Calls Tryz.prog 66 #[.int .i64 a, .int .i64 b] w fun e w' => e = .returned (.int .i64 (cmi a b)) ∧ w' = w := by
  have N1 : Hid (a < b → cmi a b = -1) := Lib.hid (fun h => if_pos h)
  have N2 : Hid (¬ a < b → b < a → cmi a b = 1) := Lib.hid (fun h k => by unfold cmi; rw [if_neg h, if_pos k])
  have N3 : Hid (¬ a < b → ¬ b < a → cmi a b = 0) := Lib.hid (fun h k => by unfold cmi; rw [if_neg h, if_neg k])
  generalize cmi a b = R at N1 N2 N3 ⊢
  by_cases h1 : a < b
  · have E := Lib.hid (N1.out h1)
    go_enter Tryz.func66, Tryz.ntmps66
    go_wp2_with (go_at_call 112; refine (isNaN_any _ _).mono ?_; rintro e w' ⟨rfl, rfl⟩)
    go_ret
    exact ⟨ret_int E.out.symm, rfl⟩
  by_cases h2 : b < a
  · have E := Lib.hid (N2.out h1 h2)
    go_enter Tryz.func66, Tryz.ntmps66
    go_wp2_with (go_at_call 112; refine (isNaN_any _ _).mono ?_; rintro e w' ⟨rfl, rfl⟩)
    go_ret
    exact ⟨ret_int E.out.symm, rfl⟩
  · have E := Lib.hid (N3.out h1 h2)
    go_enter Tryz.func66, Tryz.ntmps66
    go_wp2_with (go_at_call 112; refine (isNaN_any _ _).mono ?_; rintro e w' ⟨rfl, rfl⟩)
    go_ret
    exact ⟨ret_int E.out.symm, rfl⟩
/-- Is it of no minute? -/
def noB (x : Bz) : Bool := decide (x.2 - x.1 = 0)
theorem non_any (x : Bz) (w : World) (h : Sm x) : Calls Tryz.prog 144 #[agB x] w fun e w' => e = .returned (.bool (noB x)) ∧ Below w.heap.size w w' := by
  have N : Hid (noB x = (x.2 - x.1 == 0)) := Lib.hid (by unfold noB; rw [Bool.eq_iff_iff]; simp)
  generalize noB x = R at N ⊢
  have T3 := BBx.new w x 99
  have b3 := below_one w (.cells #[.int .i64 x.1, .int .i64 x.2] 99)
  obtain ⟨W3, hW3⟩ : ∃ W3, W3 = w.alloc (.cells #[.int .i64 x.1, .int .i64 x.2] 99) := ⟨_, rfl⟩
  rw [← hW3] at T3 b3
  have HW3 := Lib.hid hW3
  have B3 := Lib.hid b3
  obtain ⟨t0, t1⟩ := T3
  have tl := cell_in t0
  have HS := Lib.hid h
  clear hW3 b3 h
  go_enter Tryz.func144, Tryz.ntmps144
  go_upto_region 1 with fail
  rw [← HW3.out]
  go_wp2_with (go_at_call 85; refine (minB_any x _ HS.out).mono ?_; rintro e w4 ⟨rfl, hb⟩; have B4 := Lib.hid (B3.out.trans (hb.mono B3.out.size)); clear hb)
  go_ret
  exact ⟨ret_bool N.out.symm, B4.out⟩
/-- How two stretches stand. -/
def cmB (x y : Bz) : Int := cmi x.1 y.1
theorem cmB_any (x y : Bz) (w : World) :
    Calls Tryz.prog 146 #[agB x, agB y] w fun e w' => e = .returned (.int .i64 (cmB x y)) ∧ ∃ q os', w' = Sort.grow (w.drewN q) os' := by
  have EW : Hid (∃ q os', (w.alloc (.cells #[.int .i64 x.1, .int .i64 x.2] 99)).alloc (.cells #[.int .i64 y.1, .int .i64 y.2] 99) = Sort.grow (w.drewN q) os') := Lib.hid (by
    refine ⟨0, #[.cells #[.int .i64 x.1, .int .i64 x.2] 99] ++ #[.cells #[.int .i64 y.1, .int .i64 y.2] 99], ?_⟩
    show ((w.drewN 0).alloc (.cells #[.int .i64 x.1, .int .i64 x.2] 99)).alloc (.cells #[.int .i64 y.1, .int .i64 y.2] 99) = _
    rw [Sort.alloc_eq_grow, Sort.alloc_eq_grow, Sort.grow_grow])
  have CT : Hid (cmB x y = cmi x.1 y.1) := Lib.hid rfl
  generalize cmB x y = R at CT ⊢
  go_enter Tryz.func146, Tryz.ntmps146
  go_wp2_with (go_at_call 66; refine (compare_any _ _ _).mono ?_; rintro e w' ⟨rfl, hw⟩; replace hw := hw.symm; subst hw)
  go_ret
  exact ⟨ret_int CT.out.symm, EW.out⟩
/-- What is sorted. -/
def SrtA (n0 : Nat) (w : World) (v : Value) (l : List Bz) (e : Ending) (w' : World) : Prop := e = .returned (.tuple #[]) ∧ ∃ B, l.Perm B ∧ B.Pairwise (fun x y => x.1 ≤ y.1) ∧ Ob w' n0 v B ∧ Below n0 w w'
/-- What slices.SortFunc does. -/
def SrtH : Prop := ∀ (l : List Bz) (n0 : Nat) (v : Value) (w : World), Ob w n0 v l → n0 ≤ w.heap.size → l.length ≤ 1000000 → Calls Tryz.prog 145 #[v, .func (.func 146) #[] #[]] w (SrtA n0 w v l)
end Go.Proofs.YtoncfgfjdlgfcaaGreatDoor.Bz
namespace Go.Proofs.YtoncfgfjdlgfcaaGreatDoor.Bz
open Go.RowKit

theorem flat_snd (t : Int) : ∀ (l : List Bz) (i : Nat), i < l.length → (l.flatMap encB).set (i * 2 + 1) (.int .i64 t) = (l.set i ((l.getD i (0, 0)).1, t)).flatMap encB
  | [], i, h => by simp at h
  | a :: r, 0, _ => by simp [encB]
  | a :: r, i + 1, h => by
    have ih := flat_snd t r i (by simpa using h)
    rw [List.flatMap_cons, List.set_append_right _ _ (by rw [encB_len]; omega), encB_len, show (i + 1) * 2 + 1 - 2 = i * 2 + 1 by omega, ih]
    simp
/-- The end of one is laid anew. -/
theorem ob_snd {w : World} {n0 n cap g : Nat} {l : List Bz} (h : Ob w n0 (.slice (some ⟨g, 0, none⟩) n cap) l) {i : Nat} (hi : i < l.length) (t : Int) : Ob (w.setCell ⟨g, i * 2 + 1, none⟩ (.int .i64 t)) n0 (.slice (some ⟨g, 0, none⟩) n cap) (l.set i ((l.getD i (0, 0)).1, t)) := by
  obtain ⟨rfl, hb, hc, cur, hg, hm, hs, ht⟩ := h.blk
  have hcap : l.length * 2 ≤ cap * 2 := Nat.mul_le_mul_right 2 hc
  have h1 : (w.setCell ⟨g, i * 2 + 1, none⟩ (.int .i64 t)).heap[g]? = some (.cells (cur.setIfInBounds (i * 2 + 1) (.int .i64 t)) 99 (0, 0)) := by
    simp [World.setCell, Array.getElem?_modify, hg]
  refine ⟨by rw [flatB_len], Or.inr ⟨g, cap, _, by rw [List.length_set], hb, h1, by rw [List.length_set]; exact hc, hm, by simpa using hs, ?_⟩⟩
  rw [List.length_set, Array.toList_setIfInBounds, List.take_set, ht, flat_snd t l i hi]
theorem below_snd {w : World} {n0 g o : Nat} (v : Value) (hg : n0 ≤ g) : Below n0 w (w.setCell ⟨g, o, none⟩ v) := ⟨rfl, rfl, rfl, by simp, fun k hk => Below.heap_setCell w ⟨g, o, none⟩ v k (by show k ≠ g; omega)⟩
theorem stp_nil (b : Bz) : stp [] b = [b] := by simp [stp]
theorem stp_app {out : List Bz} {b : Bz} {m : Nat} (hm : out.length = m + 1) (h : (out.getD m (0, 0)).2 < b.1) : stp out b = out ++ [b] := by
  unfold stp
  rw [hm, Nat.add_sub_cancel, if_neg (by intro e; rw [e] at hm; simp at hm), if_pos h]
theorem stp_set {out : List Bz} {b : Bz} {m : Nat} (hm : out.length = m + 1) (h : ¬ (out.getD m (0, 0)).2 < b.1) : stp out b = out.set m ((out.getD m (0, 0)).1, max (out.getD m (0, 0)).2 b.2) := by
  unfold stp
  rw [hm, Nat.add_sub_cancel, if_neg (by intro e; rw [e] at hm; simp at hm), if_neg h]
theorem below_dr (w : World) (n : Nat) : Below w.heap.size w (w.drewN n) := ⟨rfl, rfl, rfl, Nat.le_refl _, fun _ _ => rfl⟩
theorem ow_dr {w : World} {p : Addr} {x : Value} {n0 : Nat} {e : TypeId} {size : Nat} {v : Value} {n : Nat} {xs : List Value} (q : Nat) (h : (w.setCell p x).ownsRow n0 e size v n xs) : ((w.drewN q).setCell p x).ownsRow n0 e size v n xs := h
set_option maxRecDepth 100000 in
set_option maxHeartbeats 4000000 in
theorem mrg_any (hS : SrtH) (l : List Bz) (v : Value) (w : World) (hv : Rb w v l) (hl : l.length ≤ 1000) (hg : ∀ x ∈ l, Gd x) :
    Calls Tryz.prog 93 #[v] w fun e w' => ∃ u, e = .returned u ∧ Ob w' w.heap.size u (nrm l) ∧ Below w.heap.size w w' := by
  have K1 := Lib.hid (cln_any v l w hv (by omega))
  have HS := Lib.hid hS
  have HGd := Lib.hid hg
  have RT := Lib.hid (gd_rt hg)
  clear hv hS hg
  go_enter Tryz.func93, Tryz.ntmps93
  go_wp2_with fail
  refine K1.out.mono ?_
  rintro e w1 ⟨u1, rfl, ho1, hb1⟩
  have O1 := Lib.hid ho1
  have B1 := Lib.hid hb1
  have K2 := Lib.hid (delM noB l w.heap.size u1 w1 (fun c hc W _ => non_any c W (gd_sm (HGd.out c hc))) ho1 hb1.size (by omega))
  clear ho1 hb1 K1
  go_wp2_with fail
  refine K2.out.mono ?_
  rintro e w2 ⟨u2, rfl, ho2, hb2⟩
  have FL : Hid ((l.filter (fun x => !noB x)).length ≤ 1000) := Lib.hid (Nat.le_trans (List.length_filter_le _ _) hl)
  have B2 := Lib.hid (B1.out.trans hb2)
  have K3 := Lib.hid (HS.out (l.filter (fun x => !noB x)) w.heap.size u2 w2 ho2 B2.out.size (Nat.le_trans FL.out (by decide)))
  clear ho2 hb2 K2 O1 B1
  go_wp2_with fail
  refine K3.out.mono ?_
  rintro e w3 ⟨rfl, B, hp, hs, ho3, hb3⟩
  have O3 := Lib.hid ho3
  have B3 := Lib.hid (B2.out.trans hb3)
  have PB := Lib.hid hp
  have SB := Lib.hid hs
  have BL : B.length ≤ 1000 := by rw [← hp.length_eq]; exact FL.out
  have GB : Hid (∀ x ∈ B, x.1 < x.2) := Lib.hid (fun x hx => by
    have q := List.mem_filter.1 (hp.mem_iff.2 hx)
    have := RT.out x q.1
    have := q.2
    unfold noB at this
    simp at this
    omega)
  obtain ⟨a, cap, ev, _⟩ := ho3.rb
  subst ev
  clear ho3 hb3 K3 hp hs FL B2
  go_wp2_with fail
  go_loopw [15, 4, 6, 7] (fun i lv _ _ wr => ∃ (k : Nat) (u : Value) (M : List Bz), k ≤ B.length ∧ i = .int .i64 k ∧ lv = u ∧ Hid (MgI (B.take k) M) ∧ Hid (Ob wr w3.heap.size u M) ∧ Below w3.heap.size w3 wr) (fun i _ _ _ _ => B.length - (intOf i).toNat)
  case atStart => exact ⟨0, _, [], Nat.zero_le _, rfl, rfl, Lib.hid ⟨cn_nil, fun t => by simp, by simp⟩, Lib.hid (World.ownsRow_nil _ _ _ _), Below.refl _ _⟩
  case round =>
    obtain ⟨k, u, M, hk, rfl, hu, HI, HO, hB⟩ := hrel
    replace hu := hu.symm
    subst hu
    have HB := Lib.hid hB
    by_cases hlt : k < B.length
    · obtain ⟨b, off, rfl, _, c1, c2⟩ := rb_at ((O3.out.rb).on hB) hlt
      have MK : Hid (∀ M', MgI (B.take k ++ [B.getD k (0, 0)]) M' → MgI (B.take (k + 1)) M') := Lib.hid (fun M' q => by
        rw [List.take_succ_eq_append_getElem hlt]
        rwa [List.getD_eq_getElem?_getD, List.getElem?_eq_getElem hlt] at q)
      have XM : B.getD k (0, 0) ∈ B := by rw [List.getD_eq_getElem?_getD, List.getElem?_eq_getElem hlt]; exact List.getElem_mem _
      have XG := Lib.hid (GB.out _ XM)
      have XO : Hid (∀ y ∈ B.take k, y.1 ≤ (B.getD k (0, 0)).1) := Lib.hid (fun y hy => by
        obtain ⟨j, hj, rfl⟩ := List.getElem_of_mem hy
        rw [List.length_take] at hj
        rw [List.getElem_take, List.getD_eq_getElem?_getD, List.getElem?_eq_getElem hlt]
        exact List.pairwise_iff_getElem.1 SB.out j k (by omega) hlt (by omega))
      obtain ⟨X, hX⟩ : ∃ X, X = B.getD k (0, 0) := ⟨_, rfl⟩
      rw [← hX] at c1 c2 MK XG XO
      have ML : M.length ≤ 1000 := by have := HI.out.2.2; rw [List.length_take] at this; omega
      have NX := Lib.hid (MK.out _ (HI.out.step XG.out XO.out))
      clear hX XM hB MK XG XO
      have bl := cell_in c1
      have T3 := BBx.new wr X 99
      have b3 := below_one wr (.cells #[.int .i64 X.1, .int .i64 X.2] 99)
      obtain ⟨W4, hW4⟩ : ∃ W4, W4 = wr.alloc (.cells #[.int .i64 X.1, .int .i64 X.2] 99) := ⟨_, rfl⟩
      rw [← hW4] at T3 b3
      have HW4 := Lib.hid hW4
      have HT := Lib.hid T3
      have B4 := Lib.hid (HB.out.trans (b3.mono HB.out.size))
      have O4 : Hid (Ob W4 w3.heap.size u M) := Lib.hid (ow_below HO.out b3)
      clear hW4 T3 b3 HO
      go_upto_region 7 with fail
      rw [← HW4.out]
      clear HW4 c1 c2 bl
      obtain ⟨t0, t1⟩ := HT.out
      have tl := cell_in t0
      rcases hM : M.length with _ | m
      · have M0 : M = [] := List.eq_nil_of_length_eq_zero hM
        subst M0
        have NX2 : Hid (MgI (B.take (k + 1)) ([] ++ [X])) := Lib.hid (by have := NX.out; rwa [stp_nil] at this)
        rcases O4.out.open with ⟨rfl, _⟩ | ⟨g, cp, rfl⟩
        · go_upto_region 8 with fail
          go_quiet (fail)
          have b5 := below_dr W4 nq
          obtain ⟨W5, hW5⟩ : ∃ W5, W5 = W4.drewN nq := ⟨_, rfl⟩
          rw [← hW5] at b5 ⊢
          obtain ⟨s0, s1⟩ := HT.out.on b5
          have sl := cell_in s0
          obtain ⟨v6, w6, ap, o6, b6⟩ := ap_next X (ow_below O4.out b5) (Nat.le_trans B4.out.size b5.size) (by simp)
          have AP := Lib.hid ap
          have O6 : Hid (Ob w6 w3.heap.size v6 (_ ++ [X])) := Lib.hid o6
          have B6 := Lib.hid (B4.out.trans ((b5.mono B4.out.size).trans b6))
          clear ap o6 b6 b5 hW5 t0 t1 tl
          go_wp2_with (at_builtin; refine wpl_app rfl _ _ 46 rfl _ _ _ _ rfl rfl AP.out ?_)
          go_roundw
          case rel => exact ⟨k + 1, v6, _, by omega, by go_num, rfl, NX2, O6, B6.out⟩
          case measure => simp [intOf]; omega
        · go_upto_region 8 with fail
          go_quiet (fail)
          have b5 := below_dr W4 nq
          obtain ⟨W5, hW5⟩ : ∃ W5, W5 = W4.drewN nq := ⟨_, rfl⟩
          rw [← hW5] at b5 ⊢
          obtain ⟨s0, s1⟩ := HT.out.on b5
          have sl := cell_in s0
          obtain ⟨v6, w6, ap, o6, b6⟩ := ap_next X (ow_below O4.out b5) (Nat.le_trans B4.out.size b5.size) (by simp)
          have AP := Lib.hid ap
          have O6 : Hid (Ob w6 w3.heap.size v6 (_ ++ [X])) := Lib.hid o6
          have B6 := Lib.hid (B4.out.trans ((b5.mono B4.out.size).trans b6))
          clear ap o6 b6 b5 hW5 t0 t1 tl
          go_wp2_with (at_builtin; refine wpl_app rfl _ _ 46 rfl _ _ _ _ rfl rfl AP.out ?_)
          go_roundw
          case rel => exact ⟨k + 1, v6, _, by omega, by go_num, rfl, NX2, O6, B6.out⟩
          case measure => simp [intOf]; omega
      · obtain ⟨g, cp, hu⟩ : ∃ g cap, u = .slice (some ⟨g, 0, none⟩) (m + 1) cap := by
          rcases O4.out.open with ⟨_, e0⟩ | ⟨g, cp, e0⟩
          · rw [e0] at hM; simp at hM
          · exact ⟨g, cp, by rw [e0, hM]⟩
        subst hu
        obtain ⟨y1, y2⟩ := O4.out.cell (i := m) (by omega)
        have yl := cell_in y1
        have GN := Lib.hid O4.out.blk.2.1
        have ZS : Hid (∀ t, Ob (W4.setCell ⟨g, m * 2 + 1, none⟩ (.int .i64 t)) w3.heap.size (.slice (some ⟨g, 0, none⟩) (m + 1) cp) (M.set m ((M.getD m (0, 0)).1, t))) := Lib.hid (fun t => ob_snd O4.out (by omega) t)
        have fz : W4.frozen? ⟨g, m * 2 + 1, none⟩ = false := (O4.out.there (o := m * 2 + 1) (m := 1) (by omega) 0 (by omega)).2
        have NA : Hid ((M.getD m (0, 0)).2 < X.1 → MgI (B.take (k + 1)) (M ++ [X])) := Lib.hid (fun q => by have := NX.out; rwa [stp_app hM q] at this)
        have NS : Hid (¬ (M.getD m (0, 0)).2 < X.1 → MgI (B.take (k + 1)) (M.set m ((M.getD m (0, 0)).1, max (M.getD m (0, 0)).2 X.2))) := Lib.hid (fun q => by have := NX.out; rwa [stp_set hM q] at this)
        generalize M.getD m (0, 0) = Y at y1 y2 ZS NA NS
        have hM2 := Lib.hid hM
        have mb : m ≤ 1000 := by omega
        have ML2 := Lib.hid ML
        clear hM NX ML
        have nd : decide ((m : Int) < 0) = false := decide_eq_false (by omega)
        go_upto_region 8 with fail
        obtain ⟨n, hn⟩ : ∃ n, n = m + 1 := ⟨_, rfl⟩
        have mn : m < n := by omega
        rw [← hn] at O4 ZS ⊢
        clear hn
        by_cases c : Y.2 < X.1
        · have N2 := Lib.hid (NA.out c)
          have cd : decide (Y.2 < X.1) = true := decide_eq_true c
          clear NA NS ZS fz
          go_quiet (fail)
          have b5 := below_dr W4 nq
          obtain ⟨W5, hW5⟩ : ∃ W5, W5 = W4.drewN nq := ⟨_, rfl⟩
          rw [← hW5] at b5 ⊢
          obtain ⟨s0, s1⟩ := HT.out.on b5
          have sl := cell_in s0
          obtain ⟨v6, w6, ap, o6, b6⟩ := ap_next X (ow_below O4.out b5) (Nat.le_trans B4.out.size b5.size) (by have := ML2.out; omega)
          have AP := Lib.hid ap
          have O6 : Hid (Ob w6 w3.heap.size v6 (_ ++ [X])) := Lib.hid o6
          have B6 := Lib.hid (B4.out.trans ((b5.mono B4.out.size).trans b6))
          clear ap o6 b6 b5 hW5 t0 t1 tl
          go_wp2_with (at_builtin; refine wpl_app rfl _ _ 46 rfl _ _ _ _ rfl rfl AP.out ?_)
          go_roundw
          case rel => exact ⟨k + 1, v6, _, by omega, by go_num, rfl, N2, O6, B6.out⟩
          case measure => simp [intOf]; omega
        · have N2 := Lib.hid (NS.out c)
          have cd : decide (Y.2 < X.1) = false := decide_eq_false c
          have ZS2 := Lib.hid (fun q => ow_dr q (ZS.out (max Y.2 X.2)))
          have BS := Lib.hid (fun q => (B4.out.trans (((below_dr W4 q).mono B4.out.size).trans (below_snd (w := W4.drewN q) (o := m * 2 + 1) (.int .i64 (max Y.2 X.2)) GN.out))))
          clear NA NS ZS
          go_quiet (fail)
          go_upto_region 10 with fail
          go_region
          go_wp2
          go_roundw
          case rel => exact ⟨k + 1, _, _, by omega, by go_num, rfl, N2, Lib.hid (ZS2.out _), BS.out _⟩
          case measure => simp [intOf]; omega
    · have N2 : Hid (M = nrm l) := Lib.hid (mgI_done RT.out PB.out (by have := HI.out; rwa [List.take_of_length_le (by omega)] at this))
      go_wp2
      go_ret
      exact ⟨u, rfl, by rw [← N2.out]; exact own_mono HO.out B3.out.size, B3.out.trans (HB.out.mono B3.out.size)⟩
end Go.Proofs.YtoncfgfjdlgfcaaGreatDoor.Bz
