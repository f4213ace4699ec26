/-
  What is proved here: what busy.Norm, Total and Join answer, whatever they are handed (contracts over the translation).
-/
import Derived.Test.YtiapdldeknijaaaDoorBzCat
namespace Go.Proofs.YtiapdldeknijaaaDoor.Bz
open Go.RowKit

/-- What Norm tells. -/
def nmL (l : List Bz) : List Bz := if bzF l = 0 then nrm l else []
theorem nmL_yes {l : List Bz} (h : bzF l = 0) : nmL l = nrm l := if_pos h
theorem nmL_no {l : List Bz} (h : ¬ bzF l = 0) : nmL l = [] := if_neg h
theorem nmL_cn (l : List Bz) : Cn (nmL l) := by
  unfold nmL
  split
  · rename_i h
    exact nrm_cn (gd_rt (bzF_zero.1 h).2)
  · exact cn_nil
theorem nmL_in (l : List Bz) : Wt 1 157785119 (nmL l) := by
  unfold nmL
  split
  · rename_i h
    exact nrm_in (gd_rt (bzF_zero.1 h).2) (gd_wt (bzF_zero.1 h).2)
  · intro x hx
    simp at hx
theorem nmL_len (l : List Bz) : (nmL l).length ≤ 200 := by
  unfold nmL
  split
  · rename_i h
    exact Nat.le_trans (nrm_len (gd_rt (bzF_zero.1 h).2)) (bzF_zero.1 h).1
  · simp
/-- A list and an error. -/
def NmA (w : World) (l : List Bz) (f : Int) (e : Ending) (w' : World) : Prop := ∃ u, e = .returned (.tuple #[u, fault f]) ∧ Ob w' w.heap.size u l ∧ Below w.heap.size w w'
set_option maxRecDepth 100000 in
theorem nrm_any (hS : SrtH) (l : List Bz) (v : Value) (w : World) (hv : Rb w v l) (hl : l.length ≤ 9223372036854775807) :
    Calls Tryd.prog 6 #[v] w (NmA w (nmL l) (bzF l)) := by
  have HV := Lib.hid hv
  have HS := Lib.hid hS
  have K := Lib.hid (chk_any l v w hv hl)
  clear hv hS
  by_cases h : bzF l = 0
  · have NL := Lib.hid (nmL_yes h)
    have GF := Lib.hid (bzF_zero.1 h)
    have HF := Lib.hid h
    rw [fault_zero h] at K
    go_enter Tryd.func6, Tryd.ntmps6
    go_wp2_with fail
    refine K.out.mono ?_
    rintro e w1 ⟨rfl, hb⟩
    have B1 := Lib.hid hb
    have K2 := Lib.hid (mrg_any HS.out l v w1 (HV.out.on hb) (Nat.le_trans GF.out.1 (by decide)) GF.out.2)
    clear hb K h
    go_wp2_with fail
    refine K2.out.mono ?_
    rintro e w2 ⟨u, rfl, ho, hb⟩
    have O2 := Lib.hid ho
    have B2 := Lib.hid (B1.out.trans (hb.mono B1.out.size))
    clear ho hb K2
    go_wp2
    go_ret2
    exact ⟨u, by rw [fault_zero HF.out]; rfl, by rw [NL.out]; exact own_mono O2.out B1.out.size, B2.out⟩
  · have NL := Lib.hid (nmL_no h)
    have HF := Lib.hid h
    rw [fault_not h] at K
    generalize nmL l = L at NL ⊢
    generalize bzF l = F at K HF ⊢
    clear h
    go_enter Tryd.func6, Tryd.ntmps6
    go_wp2_with fail
    refine K.out.mono ?_
    rintro e w1 ⟨rfl, hb⟩
    have B1 := Lib.hid hb
    clear hb K
    go_wp2
    go_ret2
    exact ⟨_, by rw [fault_not HF.out]; rfl, by rw [NL.out]; exact World.ownsRow_nil _ _ _ _, B1.out⟩
theorem tot_take (m : List Bz) (k : Nat) (h : k < m.length) : tot (m.take (k + 1)) = tot (m.take k) + ((m.getD k (0, 0)).2 - (m.getD k (0, 0)).1) := by
  have app : ∀ (a : List Bz) (x : Bz), tot (a ++ [x]) = tot a + (x.2 - x.1) := fun a x => by
    induction a with
    | nil => simp [tot]
    | cons y r ih => show y.2 - y.1 + tot (r ++ [x]) = y.2 - y.1 + tot r + _; rw [ih]; omega
  rw [List.take_succ_eq_append_getElem h, app, List.getD_eq_getElem?_getD, List.getElem?_eq_getElem h]
  rfl
theorem cn_take {m : List Bz} (h : Cn m) (k : Nat) : Cn (m.take k) := ⟨List.Pairwise.sublist (List.take_sublist k m) h.1, fun x hx => h.2 x (List.mem_of_mem_take hx)⟩
theorem wt_take {m : List Bz} {lo hi : Int} (h : Wt lo hi m) (k : Nat) : Wt lo hi (m.take k) := fun x hx => h x (List.mem_of_mem_take hx)
/-- A number and an error. -/
def TtA (w : World) (n f : Int) (e : Ending) (w' : World) : Prop := e = .returned (.tuple #[.int .i64 n, fault f]) ∧ Below w.heap.size w w'
set_option maxRecDepth 100000 in
set_option maxHeartbeats 1000000 in
theorem tot_any (hS : SrtH) (l : List Bz) (v : Value) (w : World) (hv : Rb w v l) (hl : l.length ≤ 9223372036854775807) :
    Calls Tryd.prog 9 #[v] w (TtA w (tot (nmL l)) (bzF l)) := by
  have K := Lib.hid (nrm_any hS l v w hv hl)
  have CN := Lib.hid (nmL_cn l)
  have WT := Lib.hid (nmL_in l)
  have ML := nmL_len l
  clear hv hS
  by_cases h : bzF l = 0
  · have HF := Lib.hid h
    generalize bzF l = F at K HF
    generalize nmL l = M at K CN WT ML ⊢
    obtain ⟨TT, hTT⟩ : ∃ TT, TT = tot M := ⟨_, rfl⟩
    rw [← hTT]
    have HTT := Lib.hid hTT
    clear h hTT
    go_enter Tryd.func9, Tryd.ntmps9
    go_wp2_with fail
    refine K.out.mono ?_
    rintro e w1 ⟨u, rfl, ho, hb⟩
    have B1 := Lib.hid hb
    have O1 := Lib.hid ho
    obtain ⟨a, cap, ev, _⟩ := ho.rb
    subst ev
    rw [fault_zero HF.out]
    clear hb K ho
    go_wp2_with fail
    go_loopw [19, 6, 8] (fun i s _ wr => ∃ k : Nat, k ≤ M.length ∧ i = .int .i64 k ∧ s = .int .i64 (tot (M.take k)) ∧ Below w1.heap.size w1 wr) (fun i _ _ _ => M.length - (intOf i).toNat)
    case atStart => exact ⟨0, Nat.zero_le _, rfl, rfl, Below.refl _ _⟩
    case round =>
      obtain ⟨k, hk, rfl, rfl, hB⟩ := hrel
      have HB := Lib.hid hB
      by_cases hlt : k < M.length
      · obtain ⟨b, off, rfl, _, c1, c2⟩ := rb_at (O1.out.rb.on hB) hlt
        have TK := Lib.hid (tot_take M k hlt)
        have T0 := tot_cap (cn_take CN.out k) (wt_take WT.out k) (by decide)
        have XM : M.getD k (0, 0) ∈ M := by rw [List.getD_eq_getElem?_getD, List.getElem?_eq_getElem hlt]; exact List.getElem_mem _
        have X1 := WT.out _ XM
        have X2 := CN.out.2 _ XM
        obtain ⟨X, hX⟩ : ∃ X, X = M.getD k (0, 0) := ⟨_, rfl⟩
        rw [← hX] at c1 c2 TK X1 X2
        have SX : Hid (Sm X) := Lib.hid ⟨⟨by omega, by omega⟩, by omega, by omega⟩
        generalize tot (M.take k) = T at TK T0 ⊢
        have ws : IntKind.i64.wrap (T + (X.2 - X.1)) = T + (X.2 - X.1) := by rw [IntKind.wrap_i64]; omega
        have bl := cell_in c1
        have T3 := BBx.new wr X 26
        have b3 := below_one wr (.cells #[.int .i64 X.1, .int .i64 X.2] 26)
        obtain ⟨W3, hW3⟩ : ∃ W3, W3 = wr.alloc (.cells #[.int .i64 X.1, .int .i64 X.2] 26) := ⟨_, rfl⟩
        rw [← hW3] at T3 b3
        have HW3 := Lib.hid hW3
        have HT3 := Lib.hid T3
        have B3 := Lib.hid (HB.out.trans (b3.mono HB.out.size))
        clear hW3 T3 b3 hX XM hB X1 X2
        go_upto_region 8 with fail
        rw [← HW3.out]
        clear HW3 c1 c2 bl
        obtain ⟨t0, t1⟩ := HT3.out
        have tl := cell_in t0
        go_wp2_with fail
        refine (minB_any X _ SX.out).mono ?_
        rintro e w4 ⟨rfl, hb⟩
        have B4 := Lib.hid (B3.out.trans (hb.mono B3.out.size))
        clear t0 t1 tl hb HT3 B3
        go_wp2
        go_roundw
        case rel => exact ⟨k + 1, by omega, by go_num, by rw [TK.out], B4.out⟩
        case measure => simp [intOf]; omega
      · have N2 : Hid (tot (M.take k) = TT) := Lib.hid (by rw [List.take_of_length_le (by omega), HTT.out])
        rw [N2.out]
        go_wp2
        go_ret2
        exact ⟨by rw [HF.out]; rfl, B1.out.trans (HB.out.mono B1.out.size)⟩
  · have NL : Hid (tot (nmL l) = 0) := Lib.hid (by rw [nmL_no h]; rfl)
    have HF := Lib.hid h
    generalize tot (nmL l) = T at NL ⊢
    generalize nmL l = L at K
    generalize bzF l = F at K HF ⊢
    clear h
    go_enter Tryd.func9, Tryd.ntmps9
    go_wp2_with fail
    refine K.out.mono ?_
    rintro e w1 ⟨u, rfl, ho, hb⟩
    have B1 := Lib.hid hb
    rw [fault_not HF.out]
    clear hb K ho
    go_wp2
    go_ret2
    exact ⟨by rw [fault_not HF.out, NL.out]; rfl, B1.out⟩
/-- What Join tells: the fault, the list. -/
def joF (l m : List Bz) : Int := if bzF l = 0 then (if bzF m = 0 then bzF (l ++ m) else bzF m) else bzF l
def joL (l m : List Bz) : List Bz := if joF l m = 0 then nrm (l ++ m) else []
set_option maxRecDepth 100000 in
set_option maxHeartbeats 1000000 in
theorem joi_any (hS : SrtH) (l m : List Bz) (v u : Value) (w : World) (hv : Rb w v l) (hu : Rb w u m) (hl : l.length ≤ 9223372036854775807) (hm : m.length ≤ 9223372036854775807) :
    Calls Tryd.prog 10 #[v, u] w (NmA w (joL l m) (joF l m)) := by
  have HV := Lib.hid hv
  have HU := Lib.hid hu
  have HS := Lib.hid hS
  have K := Lib.hid (chk_any l v w hv hl)
  obtain ⟨av, cv, ev, _⟩ := hv
  obtain ⟨au, cu, eu, _⟩ := hu
  subst ev eu
  clear hS
  by_cases h : bzF l = 0
  · rw [fault_zero h] at K
    by_cases h2 : bzF m = 0
    · have JF : Hid (joF l m = bzF (l ++ m)) := Lib.hid (by unfold joF; rw [if_pos h, if_pos h2])
      have JL : Hid (joL l m = nmL (l ++ m)) := Lib.hid (by unfold joL nmL; rw [JF.out])
      have LL := (bzF_zero.1 h).1
      have MM := (bzF_zero.1 h2).1
      have H2 := Lib.hid h2
      generalize joF l m = F at JF ⊢
      generalize joL l m = L at JL ⊢
      clear h h2
      go_enter Tryd.func10, Tryd.ntmps10
      go_wp2_with fail
      refine K.out.mono ?_
      rintro e w1 ⟨rfl, hb⟩
      have B1 := Lib.hid hb
      have K2 := Lib.hid (chk_any m _ w1 (HU.out.on hb) hm)
      rw [fault_zero H2.out] at K2
      clear hb K
      go_wp2_with fail
      refine K2.out.mono ?_
      rintro e w2 ⟨rfl, hb⟩
      have B2 := Lib.hid (B1.out.trans (hb.mono B1.out.size))
      clear hb K2
      have b3 := below_one w2 (.cells #[.slice av l.length cv, .slice au m.length cu] 22)
      have T3 : Two2 (w2.alloc (.cells #[.slice av l.length cv, .slice au m.length cu] 22)) w2.heap.size (.slice av l.length cv) (.slice au m.length cu) := ⟨by simp, by simp⟩
      have B3 := Lib.hid (B2.out.trans (b3.mono B2.out.size))
      have K3 := Lib.hid (cat_any l m _ _ w2.heap.size _ T3 (HV.out.on B3.out) (HU.out.on B3.out) (by omega) (by omega))
      clear T3 b3
      go_wp2_with fail
      refine K3.out.mono ?_
      rintro e w4 ⟨x, rfl, ho, hb⟩
      have B4 := Lib.hid (B3.out.trans (hb.mono B3.out.size))
      have K4 := Lib.hid (nrm_any HS.out (l ++ m) x w4 ho.rb (by rw [List.length_append]; omega))
      rw [← JF.out, ← JL.out] at K4
      clear ho hb K3
      go_wp2_with fail
      refine K4.out.mono ?_
      rintro e w5 ⟨y, rfl, ho, hb⟩
      have B5 := Lib.hid (B4.out.trans (hb.mono B4.out.size))
      have O5 := Lib.hid (own_mono ho B4.out.size)
      clear ho hb K4
      go_wp2
      go_ret2
      exact ⟨y, rfl, O5.out, B5.out⟩
    · have JF : Hid (joF l m = bzF m) := Lib.hid (by unfold joF; rw [if_pos h, if_neg h2])
      have JL : Hid (joL l m = []) := Lib.hid (by unfold joL; rw [JF.out, if_neg h2])
      have H2 := Lib.hid h2
      generalize joF l m = F at JF ⊢
      generalize joL l m = L at JL ⊢
      clear h h2
      go_enter Tryd.func10, Tryd.ntmps10
      go_wp2_with fail
      refine K.out.mono ?_
      rintro e w1 ⟨rfl, hb⟩
      have B1 := Lib.hid hb
      have K2 := Lib.hid (chk_any m _ w1 (HU.out.on hb) hm)
      rw [fault_not H2.out] at K2
      generalize bzF m = G at JF H2 K2
      clear hb K
      go_wp2_with fail
      refine K2.out.mono ?_
      rintro e w2 ⟨rfl, hb⟩
      have B2 := Lib.hid (B1.out.trans (hb.mono B1.out.size))
      clear hb K2
      go_wp2
      go_ret2
      exact ⟨_, by rw [JF.out, fault_not H2.out]; rfl, by rw [JL.out]; exact World.ownsRow_nil _ _ _ _, B2.out⟩
  · rw [fault_not h] at K
    have JF : Hid (joF l m = bzF l) := Lib.hid (by unfold joF; rw [if_neg h])
    have JL : Hid (joL l m = []) := Lib.hid (by unfold joL; rw [JF.out, if_neg h])
    have H1 := Lib.hid h
    generalize joF l m = F at JF ⊢
    generalize joL l m = L at JL ⊢
    generalize bzF l = G at JF H1 K
    clear h
    go_enter Tryd.func10, Tryd.ntmps10
    go_wp2_with fail
    refine K.out.mono ?_
    rintro e w1 ⟨rfl, hb⟩
    have B1 := Lib.hid hb
    clear hb K
    go_wp2
    go_ret2
    exact ⟨_, by rw [JF.out, fault_not H1.out]; rfl, by rw [JL.out]; exact World.ownsRow_nil _ _ _ _, B1.out⟩
end Go.Proofs.YtiapdldeknijaaaDoor.Bz
