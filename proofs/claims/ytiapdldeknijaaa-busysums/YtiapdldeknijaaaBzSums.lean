/-
  What is proved here: BusySums returns true, whatever it is handed (its walk over the translation); the plain facts that it wants.
-/
import Derived.Test.YtiapdldeknijaaaBzSlot
import Derived.Test.YtiapdldeknijaaaBzSort
namespace Go.Proofs.Ytiapdldeknijaaa.Bz
open Go.RowKit

/-- What of one lies in a stretch. -/
def ctB (fr t : Int) (x : Bz) : Bz := (if x.1 < fr then fr else x.1, if t < x.2 then t else x.2)
def ctP (fr t : Int) (x : Bz) : List Bz := if (ctB fr t x).1 < (ctB fr t x).2 then [ctB fr t x] else []
def ctL (fr t : Int) (l : List Bz) : List Bz := l.flatMap (ctP fr t)
theorem ctL_step (fr t : Int) (l : List Bz) (k : Nat) (h : k < l.length) : ctL fr t (l.take (k + 1)) = ctL fr t (l.take k) ++ ctP fr t (l.getD k (0, 0)) := by
  unfold ctL
  rw [List.take_succ_eq_append_getElem h, List.flatMap_append, List.getD_eq_getElem?_getD, List.getElem?_eq_getElem h]
  simp
theorem ctL_len (fr t : Int) (l : List Bz) : (ctL fr t l).length ≤ l.length := by
  unfold ctL
  induction l with
  | nil => simp
  | cons a r ih =>
    rw [List.flatMap_cons, List.length_append, List.length_cons]
    have : (ctP fr t a).length ≤ 1 := by unfold ctP; split <;> simp
    omega
theorem ctL_cov (fr t : Int) (l : List Bz) (u : Int) : cov (ctL fr t l) u ↔ cov l u ∧ fr ≤ u ∧ u < t := by
  unfold cov ctL
  constructor
  · rintro ⟨y, hy, k⟩
    obtain ⟨x, hx, hyx⟩ := List.mem_flatMap.1 hy
    unfold ctP at hyx
    split at hyx
    · simp at hyx
      subst hyx
      simp only [ctB] at k
      refine ⟨⟨x, hx, ?_⟩, ?_⟩
      · split at k <;> split at k <;> omega
      · split at k <;> split at k <;> omega
    · simp at hyx
  · rintro ⟨⟨x, hx, k⟩, k2⟩
    have a1 : (ctB fr t x).1 ≤ u := by simp only [ctB]; split <;> omega
    have a2 : u < (ctB fr t x).2 := by simp only [ctB]; split <;> omega
    exact ⟨ctB fr t x, List.mem_flatMap.2 ⟨x, hx, by unfold ctP; rw [if_pos (by omega)]; simp⟩, a1, a2⟩
theorem ctL_gd {fr t : Int} {l : List Bz} (h : ∀ x ∈ l, Gd x) (h1 : 1 ≤ fr) (h2 : t ≤ 157785119) : (∀ x ∈ ctL fr t l, Gd x) ∧ Wt fr t (ctL fr t l) := by
  have key : ∀ y ∈ ctL fr t l, Gd y ∧ fr ≤ y.1 ∧ y.2 ≤ t := fun y hy => by
    obtain ⟨x, hx, hyx⟩ := List.mem_flatMap.1 hy
    have g := h x hx
    unfold Gd at g
    unfold ctP at hyx
    split at hyx
    · rename_i hlt
      simp at hyx
      subst hyx
      have a1 : fr ≤ (ctB fr t x).1 := by simp only [ctB]; split <;> omega
      have a2 : (ctB fr t x).2 ≤ t := by simp only [ctB]; split <;> omega
      exact ⟨⟨by omega, by omega, by omega⟩, a1, a2⟩
    · simp at hyx
  exact ⟨fun y hy => (key y hy).1, fun y hy => (key y hy).2⟩
/-- All minutes are there. -/
theorem sum_all {l : List Bz} {fr t : Int} (h : frF l fr t = 0) : bzF l = 0 ∧ (1 ≤ fr ∧ fr ≤ t ∧ t ≤ 157785119) ∧ bzF (ctL fr t l) = 0 ∧ tot (nmL (ctL fr t l)) + tot (frL l fr t) = t - fr := by
  have hz : bzF l = 0 := by
    unfold frF at h
    split at h
    · rename_i q
      exact q
    · exact h
  have ho : onF (fr, t) = 0 := by
    unfold frF at h
    rwa [if_pos hz] at h
  obtain ⟨hl, hg⟩ := bzF_zero.1 hz
  have gd : 1 ≤ fr ∧ fr ≤ t ∧ t ≤ 157785119 := onF_zero.1 ho
  obtain ⟨c1, c2⟩ := ctL_gd (fr := fr) (t := t) hg gd.1 gd.2.2
  have cz : bzF (ctL fr t l) = 0 := bzF_zero.2 ⟨Nat.le_trans (ctL_len fr t l) hl, c1⟩
  refine ⟨hz, gd, cz, ?_⟩
  have e2 : frL l fr t = fre t fr (nrm l) := by unfold frL; rw [if_pos h]
  rw [nmL_yes cz, e2]
  obtain ⟨f1, f2⟩ := fre_cn t (nrm l) fr (nrm_cn (gd_rt hg))
  have cv : ∀ u, cov (nrm (ctL fr t l)) u ↔ cov l u ∧ fr ≤ u ∧ u < t := fun u => by rw [nrm_cov (gd_rt c1), ctL_cov]
  have fv : ∀ u, cov (fre t fr (nrm l)) u ↔ (fr ≤ u ∧ u < t) ∧ ¬ cov l u := fun u => by rw [f2, nrm_cov (gd_rt hg)]
  refine tot_two gd.2.1 (nrm_cn (gd_rt c1)) f1 (nrm_in (gd_rt c1) c2) (fun x hx => ?_) (fun u => ?_) (fun u p q => ?_)
  · have a := ((fv x.1).1 (f1.first hx)).1
    have b := ((fv (x.2 - 1)).1 (f1.last hx)).1
    omega
  · rw [cv, fv]
    constructor
    · rintro (⟨_, p⟩ | ⟨p, _⟩)
      · exact p
      · exact p
    · intro p
      by_cases q : cov l u
      · exact Or.inl ⟨q, p⟩
      · exact Or.inr ⟨p, q⟩
  · exact ((fv u).1 q).2 ((cv u).1 p).1
theorem rb_two (W : World) (x y : Bz) : Rb (W.alloc (.cells #[.int .i64 x.1, .int .i64 x.2, .int .i64 y.1, .int .i64 y.2] 28)) (.slice (some ⟨W.heap.size, 0, none⟩) 2 2) [x, y] := by
  refine ⟨_, _, rfl, Or.inr ⟨W.heap.size, 0, rfl, fun j u hu => ?_⟩⟩
  have hj : j < 4 := (List.getElem?_eq_some_iff.1 hu).1
  rcases (by omega : j = 0 ∨ j = 1 ∨ j = 2 ∨ j = 3) with rfl | rfl | rfl | rfl <;> (simp [encB] at hu; subst hu; simp)
theorem fact_sum : tot (nmL [(10, 20), (15, 30)]) = 20 ∧ bzF [(10, 20), (15, 30)] = 0 := by decide
theorem box_set0 {W : World} {b : Nat} {x : Bz} (h : BBx W b x) (a : Int) : BBx (W.setCell ⟨b, 0, none⟩ (.int .i64 a)) b (a, x.2) :=
  ⟨set_same h.1, (World.cell?_setCell_other W ⟨b, 0, none⟩ ⟨b, 1, none⟩ _ (by simp)).trans h.2⟩
theorem box_set1 {W : World} {b : Nat} {x : Bz} (h : BBx W b x) (a : Int) : BBx (W.setCell ⟨b, 1, none⟩ (.int .i64 a)) b (x.1, a) :=
  ⟨(World.cell?_setCell_other W ⟨b, 1, none⟩ ⟨b, 0, none⟩ _ (by simp)).trans h.1, set_same h.2⟩
/-- A stretch in a block of the round's own, beside a row. -/
structure Sx (w3 : World) (bb : Nat) (u : Value) (C : List Bz) (Y : Bz) (W : World) : Prop where
  bx : BBx W bb Y
  fz : ∀ o, W.frozen? ⟨bb, o, none⟩ = false
  ob : Ob W w3.heap.size u C
  bl : Below w3.heap.size w3 W
  hi : w3.heap.size ≤ bb
  ne : ∀ g, u.ownBlock = some g → g ≠ bb
theorem ob_ne {w : World} {n0 b o : Nat} {v u : Value} {l : List Bz} (h : Ob w n0 u l) (hb : ∀ g, u.ownBlock = some g → g ≠ b) : Ob (w.setCell ⟨b, o, none⟩ v) n0 u l := by
  refine ⟨h.1, ?_⟩
  rcases h.2 with h2 | ⟨g, cap, cur, hv, hg, hh, hr⟩
  · exact Or.inl h2
  · exact Or.inr ⟨g, cap, cur, hv, hg, (Below.heap_setCell w ⟨b, o, none⟩ v g (by show g ≠ b; exact hb g (by rw [hv]; rfl))).trans hh, hr⟩
theorem Sx.set0 {w3 W : World} {bb : Nat} {u : Value} {C : List Bz} {Y : Bz} (h : Sx w3 bb u C Y W) (a : Int) : Sx w3 bb u C (a, Y.2) (W.setCell ⟨bb, 0, none⟩ (.int .i64 a)) :=
  ⟨box_set0 h.bx a, fun o => by rw [World.frozen?_setCell]; exact h.fz o, ob_ne h.ob h.ne, h.bl.trans (below_snd _ h.hi), h.hi, h.ne⟩
theorem Sx.set1 {w3 W : World} {bb : Nat} {u : Value} {C : List Bz} {Y : Bz} (h : Sx w3 bb u C Y W) (a : Int) : Sx w3 bb u C (Y.1, a) (W.setCell ⟨bb, 1, none⟩ (.int .i64 a)) :=
  ⟨box_set1 h.bx a, fun o => by rw [World.frozen?_setCell]; exact h.fz o, ob_ne h.ob h.ne, h.bl.trans (below_snd _ h.hi), h.hi, h.ne⟩
set_option maxRecDepth 100000 in
set_option maxHeartbeats 8000000 in
theorem bsums (l : List Bz) (fr t : Int) (v : Value) (w : World) (hv : Rb w v l) (hl : l.length ≤ 9223372036854775807) :
    Calls Try.prog 4 #[v, .int .i64 fr, .int .i64 t] w fun e w' => e = .returned (.bool true) ∧ Below w.heap.size w w' := by
  have HV := Lib.hid hv
  have b1 := below_one w (.cells #[.int .i64 10, .int .i64 20, .int .i64 15, .int .i64 30] 28)
  have K := tot_any srtH _ _ _ (rb_two w (10, 20) (15, 30)) (by decide)
  rw [fact_sum.1, fact_sum.2] at K
  obtain ⟨W1, hW1⟩ : ∃ W1, W1 = w.alloc (.cells #[.int .i64 10, .int .i64 20, .int .i64 15, .int .i64 30] 28) := ⟨_, rfl⟩
  have hW1' : W1 = w.alloc (.cells #[.int .i64 (10, 20).1, .int .i64 (10, 20).2, .int .i64 (15, 30).1, .int .i64 (15, 30).2] 28) := hW1
  rw [← hW1'] at K
  rw [← hW1] at b1
  have K1 := Lib.hid K
  have HW1 := Lib.hid hW1
  have B1 := Lib.hid b1
  obtain ⟨av, cv, ev, _⟩ := hv
  subst ev
  clear b1 hW1 hW1' K
  go_enter Try.func4, Try.ntmps4
  go_wp2_with (go_at_call 10; rw [← HW1.out]; refine K1.out.mono ?_; rintro e w2 ⟨rfl, hb⟩; have B2 := Lib.hid (B1.out.trans (hb.mono B1.out.size)); clear hb; rw [show fault 0 = .nilIface from rfl])
  have K2 := Lib.hid (fre_any srtH l fr t _ w2 (HV.out.on B2.out) hl)
  refine K2.out.mono ?_
  rintro e w3 ⟨u3, rfl, ho, hb⟩
  have O3 := Lib.hid ho
  have B3 := Lib.hid (B2.out.trans (hb.mono B2.out.size))
  have FG := Lib.hid (frL_gd l fr t)
  obtain ⟨au, cu, eu, _⟩ := ho.rb
  subst eu
  clear ho hb K2 K1 HW1 B1
  by_cases hf : frF l fr t = 0
  case neg =>
    rw [fault_not hf]
    generalize frF l fr t = F
    clear FG O3
    go_wp2
    go_ret
    exact ⟨rfl, B3.out⟩
  have SA := Lib.hid (sum_all hf)
  have l2 : l.length ≤ 200 := (bzF_zero.1 SA.out.1).1
  rw [hf, show fault 0 = .nilIface from rfl]
  clear hf
  go_wp2_with fail
  go_loopw [11, 12, 13] (fun uv i _ wr => ∃ (k : Nat) (u : Value), k ≤ l.length ∧ i = .int .i64 k ∧ uv = u ∧ Hid (Ob wr w3.heap.size u (ctL fr t (l.take k))) ∧ Below w3.heap.size w3 wr) (fun _ i _ _ => l.length - (intOf i).toNat)
  case atStart => exact ⟨0, _, Nat.zero_le _, rfl, rfl, Lib.hid (World.ownsRow_nil _ _ _ _), Below.refl _ _⟩
  case round =>
    obtain ⟨k, u, hk, rfl, hu, HO, hB⟩ := hrel
    replace hu := hu.symm
    subst hu
    have HB := Lib.hid hB
    by_cases hlt : k < l.length
    · obtain ⟨b, off, ea, _, c1, c2⟩ := rb_at (HV.out.on (B3.out.trans (hB.mono B3.out.size))) hlt
      subst ea
      have ST := Lib.hid (ctL_step fr t l k hlt)
      obtain ⟨X, hX⟩ : ∃ X, X = l.getD k (0, 0) := ⟨_, rfl⟩
      rw [← hX] at c1 c2 ST
      have CL : Hid ((ctL fr t (l.take k)).length ≤ 200) := Lib.hid (Nat.le_trans (ctL_len fr t _) (by rw [List.length_take]; omega))
      obtain ⟨C, hC⟩ : ∃ C, C = ctL fr t (l.take k) := ⟨_, rfl⟩
      rw [← hC] at HO ST CL
      clear hX hC hB
      have bl := cell_in c1
      have T3 := BBx.new wr X 28
      have b3 := below_one wr (.cells #[.int .i64 X.1, .int .i64 X.2] 28)
      have fz : ∀ o, (wr.alloc (.cells #[.int .i64 X.1, .int .i64 X.2] 28)).frozen? ⟨wr.heap.size, o, none⟩ = false := fun o => by simp
      obtain ⟨W4, hW4⟩ : ∃ W4, W4 = wr.alloc (.cells #[.int .i64 X.1, .int .i64 X.2] 28) := ⟨_, rfl⟩
      rw [← hW4] at T3 b3 fz
      have HW4 := Lib.hid hW4
      have HT := Lib.hid T3
      have B4 := Lib.hid (HB.out.trans (b3.mono HB.out.size))
      have O4 : Hid (Ob W4 w3.heap.size u C) := Lib.hid (ow_below HO.out b3)
      have SX : Hid (Sx w3 wr.heap.size u C X W4) := Lib.hid ⟨T3, fz, O4.out, B4.out, HB.out.size, fun g hg => by have := (HO.out.lt g hg).2; omega⟩
      clear hW4 T3 b3 HO fz B4 O4
      go_upto_region 12 with fail
      rw [← HW4.out]
      clear HW4 c1 c2 bl
      obtain ⟨bb, hbb⟩ : ∃ bb, bb = wr.heap.size := ⟨_, rfl⟩
      rw [← hbb] at SX HT ⊢
      have PT : Hid (ctP fr t X = if (if X.1 < fr then fr else X.1) < (if t < X.2 then t else X.2) then [(if X.1 < fr then fr else X.1, if t < X.2 then t else X.2)] else []) := Lib.hid rfl
      obtain ⟨t0, t1⟩ := HT.out
      have tl := cell_in t0
      have z0 := SX.out.fz 0
      clear HT hbb
      by_cases q1 : X.1 < fr
      case' pos =>
        have S5 := Lib.hid (SX.out.set0 fr)
        have Y1 : Hid ((if X.1 < fr then fr else X.1) = fr) := Lib.hid (if_pos q1)
        go_upto_region 14 with fail
        obtain ⟨W5, hW5⟩ : ∃ W5, W5 = W4.setCell ⟨bb, 0, none⟩ (.int .i64 fr) := ⟨_, rfl⟩
        rw [← hW5] at S5 ⊢
        obtain ⟨y1, hy1⟩ : ∃ y1, y1 = fr := ⟨_, rfl⟩
        rw [← hy1] at S5
        have Y2 : Hid ((if X.1 < fr then fr else X.1) = y1) := Lib.hid (by rw [hy1]; exact Y1.out)
        clear hW5 hy1 Y1
      case' neg =>
        have S5 := SX
        have Y1 : Hid ((if X.1 < fr then fr else X.1) = X.1) := Lib.hid (if_neg q1)
        go_upto_region 14 with fail
        obtain ⟨W5, hW5⟩ : ∃ W5, W5 = W4 := ⟨_, rfl⟩
        rw [← hW5] at S5 ⊢
        obtain ⟨y1, hy1⟩ : ∃ y1, y1 = X.1 := ⟨_, rfl⟩
        replace S5 : Hid (Sx w3 bb u C (y1, X.2) W5) := Lib.hid (by rw [hy1]; exact S5.out)
        have Y2 : Hid ((if X.1 < fr then fr else X.1) = y1) := Lib.hid (by rw [hy1]; exact Y1.out)
        clear hW5 hy1 Y1
      all_goals
        clear t0 t1 tl z0 SX q1
        obtain ⟨s0, s1⟩ := S5.out.bx
        dsimp only at s0 s1
        have sl := cell_in s0
        have z1 := S5.out.fz 1
        by_cases q2 : t < X.2
        case' pos =>
          have S6 := Lib.hid (S5.out.set1 t)
          have Y1 : Hid ((if t < X.2 then t else X.2) = t) := Lib.hid (if_pos q2)
          go_upto_region 16 with fail
          obtain ⟨W6, hW6⟩ : ∃ W6, W6 = W5.setCell ⟨bb, 1, none⟩ (.int .i64 t) := ⟨_, rfl⟩
          rw [← hW6] at S6 ⊢
          obtain ⟨y2, hy2⟩ : ∃ y2, y2 = t := ⟨_, rfl⟩
          rw [← hy2] at S6
          have Y3 : Hid ((if t < X.2 then t else X.2) = y2) := Lib.hid (by rw [hy2]; exact Y1.out)
          clear hW6 hy2 Y1
        case' neg =>
          have S6 := S5
          have Y1 : Hid ((if t < X.2 then t else X.2) = X.2) := Lib.hid (if_neg q2)
          go_upto_region 16 with fail
          obtain ⟨W6, hW6⟩ : ∃ W6, W6 = W5 := ⟨_, rfl⟩
          rw [← hW6] at S6 ⊢
          obtain ⟨y2, hy2⟩ : ∃ y2, y2 = X.2 := ⟨_, rfl⟩
          rw [← hy2] at S6
          have Y3 : Hid ((if t < X.2 then t else X.2) = y2) := Lib.hid (by rw [hy2]; exact Y1.out)
          clear hW6 hy2 Y1
      all_goals
        clear s0 s1 sl z1 S5 q2
        have PT2 : Hid (ctP fr t X = if y1 < y2 then [(y1, y2)] else []) := Lib.hid (by rw [PT.out, Y2.out, Y3.out])
        clear PT Y2 Y3
        obtain ⟨s0, s1⟩ := S6.out.bx
        dsimp only at s0 s1
        have sl := cell_in s0
        by_cases q3 : y1 < y2
        case' pos =>
          obtain ⟨v6, w6, ap, o6, b6⟩ := ap_next (y1, y2) S6.out.ob (Nat.le_trans S6.out.hi (Nat.le_of_lt sl)) (Nat.le_trans CL.out (by decide))
          have AP := Lib.hid ap
          have O6 : Hid (Ob w6 w3.heap.size v6 (ctL fr t (l.take (k + 1)))) := Lib.hid (by rw [ST.out, PT2.out, if_pos q3]; exact o6)
          have B6 := Lib.hid (S6.out.bl.trans b6)
          clear ap o6 b6 ST PT2 S6
          go_wp2_with (at_builtin; refine wpl_app rfl _ _ 22 rfl _ _ _ _ rfl rfl AP.out ?_)
          go_roundw
          case rel => exact ⟨k + 1, v6, by omega, by go_num, rfl, O6, B6.out⟩
          case measure => simp [intOf]; omega
        case' neg =>
          have O6 : Hid (Ob W6 w3.heap.size u (ctL fr t (l.take (k + 1)))) := Lib.hid (by rw [ST.out, PT2.out, if_neg q3, List.append_nil]; exact S6.out.ob)
          have B6 := Lib.hid S6.out.bl
          clear ST PT2 S6
          go_wp2
          go_roundw
          case rel => exact ⟨k + 1, u, by omega, by go_num, rfl, O6, B6.out⟩
          case measure => simp [intOf]; omega
    · have O6 : Hid (Ob wr w3.heap.size u (ctL fr t l)) := Lib.hid (by have := HO.out; rwa [List.take_of_length_le (by omega)] at this)
      have O7 : Hid (Ob wr w2.heap.size (.slice au (frL l fr t).length cu) (frL l fr t)) := Lib.hid (ow_below O3.out hB)
      have K3 := Lib.hid (tot_any srtH (ctL fr t l) u wr O6.out.rb (Nat.le_trans (ctL_len fr t l) hl))
      have CZ := SA.out.2.2.1
      rw [CZ] at K3
      have TC := tot_cap (nmL_cn (ctL fr t l)) (nmL_in (ctL fr t l)) (by decide)
      have BW := Lib.hid (B3.out.trans (hB.mono B3.out.size))
      have EQ := SA.out.2.2.2
      have GT := SA.out.2.1
      obtain ⟨FL, hFL⟩ : ∃ FL, FL = frL l fr t := ⟨_, rfl⟩
      rw [← hFL] at O7 EQ FG ⊢
      have TF := Lib.hid (fun k => tot_take FL k)
      have FC : Hid (∀ k, 0 ≤ tot (FL.take k) ∧ tot (FL.take k) ≤ 157785118) := Lib.hid (fun k => by
        have e2 : FL = fre t fr (nrm l) := by
          rw [hFL]
          unfold frL frF
          rw [if_pos SA.out.1, if_pos (onF_zero.2 (show Gd (fr, t) from GT))]
        have cn : Cn FL := by rw [e2]; exact (fre_cn t (nrm l) fr (nrm_cn (gd_rt (bzF_zero.1 SA.out.1).2))).1
        have := tot_cap (cn_take cn k) (wt_take (gd_wt FG.out.1) k) (by decide)
        omega)
      generalize tot (nmL (ctL fr t l)) = T1 at K3 TC EQ
      have EQ2 := Lib.hid EQ
      have FLL := FG.out.2
      have FGG := Lib.hid FG.out.1
      clear O6 HO EQ hFL O3 SA CZ hB FG
      go_wp2_with fail
      refine K3.out.mono ?_
      rintro e w5 ⟨rfl, hb⟩
      have B5 := Lib.hid (BW.out.trans (hb.mono BW.out.size))
      have O8 : Hid (Ob w5 w2.heap.size (.slice au FL.length cu) FL) := Lib.hid (ow_below O7.out hb)
      rw [show fault 0 = .nilIface from rfl]
      clear hb K3 O7 BW HB
      go_wp2_with fail
      go_loopw [16, 17] (fun s i wr => ∃ k : Nat, k ≤ FL.length ∧ i = .int .i64 k ∧ s = .int .i64 (tot (FL.take k)) ∧ Below w5.heap.size w5 wr) (fun _ i _ => FL.length - (intOf i).toNat)
      case atStart => exact ⟨0, Nat.zero_le _, rfl, rfl, Below.refl _ _⟩
      case round =>
        obtain ⟨j, hj, rfl, rfl, hB⟩ := hrel
        have HB := Lib.hid hB
        by_cases hlt2 : j < FL.length
        · obtain ⟨b, off, ea, _, c1, c2⟩ := rb_at (O8.out.rb.on hB) hlt2
          subst ea
          have TK := Lib.hid (TF.out j hlt2)
          have XG := FGG.out (FL.getD j (0, 0)) (by rw [List.getD_eq_getElem?_getD, List.getElem?_eq_getElem hlt2]; exact List.getElem_mem _)
          unfold Gd at XG
          have TB := FC.out j
          generalize FL.getD j (0, 0) = X at c1 c2 TK XG
          generalize tot (FL.take j) = T at TK TB ⊢
          have bl := cell_in c1
          have e1 : IntKind.i64.wrap (T + X.2) = T + X.2 := by rw [IntKind.wrap_i64]; omega
          have e2 : IntKind.i64.wrap (T + X.2 - X.1) = T + X.2 - X.1 := by rw [IntKind.wrap_i64]; omega
          have N2 : Hid (T + X.2 - X.1 = tot (FL.take (j + 1))) := Lib.hid (by rw [TK.out]; omega)
          clear hB TK
          go_wp2_with fail
          go_quiet (fail)
          have B9 := Lib.hid (HB.out.trans ((below_dr wr nq).mono HB.out.size))
          clear c1 c2 bl
          go_wp2
          go_roundw
          case rel => exact ⟨j + 1, by omega, by go_num, by rw [← N2.out], B9.out⟩
          case measure => simp [intOf]; omega
        · have N2 : Hid (tot (FL.take j) = tot FL) := Lib.hid (by rw [List.take_of_length_le (by omega)])
          have TB := FC.out j
          rw [N2.out] at TB ⊢
          have EQ3 := EQ2.out
          generalize tot FL = T2 at TB EQ3 ⊢
          have e0 : (T1 + T2 == t - fr) = true := by rw [EQ3]; simp
          have e1 : IntKind.i64.wrap (T1 + T2) = T1 + T2 := by rw [IntKind.wrap_i64]; omega
          have e2 : IntKind.i64.wrap (t - fr) = t - fr := by rw [IntKind.wrap_i64]; omega
          have B9 := Lib.hid (B5.out.trans (HB.out.mono B5.out.size))
          clear N2 EQ3 hB
          go_wp2
          go_ret
          exact ⟨ret_bool (by simp), B9.out⟩
end Go.Proofs.Ytiapdldeknijaaa.Bz
