/-
  What is proved here: BusyHolds returns true, whatever it is handed (its walk over the translation); the plain facts that it wants.
-/
import Derived.Test.YtiapdldeknijaaaBzSlot
import Derived.Test.YtiapdldeknijaaaBzSort
namespace Go.Proofs.Ytiapdldeknijaaa.Bz
open Go.RowKit

theorem wi_same {l m : List Bz} {t : Int} (h : cov l t ↔ cov m t) : wi l t = wi m t := by
  rw [Bool.eq_iff_iff, wi_iff, wi_iff]
  exact h
theorem frF_zero {l : List Bz} {fr t : Int} (h : frF l fr t = 0) : bzF l = 0 ∧ (1 ≤ fr ∧ fr ≤ t ∧ t ≤ 157785119) ∧ frL l fr t = fre t fr (nrm l) := by
  have hz : bzF l = 0 := by
    unfold frF at h
    split at h
    · rename_i q
      exact q
    · exact h
  have ho : onF (fr, t) = 0 := by
    have h' := h
    unfold frF at h'
    rwa [if_pos hz] at h'
  exact ⟨hz, onF_zero.1 ho, by unfold frL; rw [if_pos h]⟩
theorem wi_nm {l : List Bz} (h : bzF l = 0) (t : Int) : wi (nmL l) t = wi l t := wi_same (by rw [nmL_yes h]; exact nrm_cov (gd_rt (bzF_zero.1 h).2) t)
theorem wi_fr {l : List Bz} {fr t : Int} (h : frF l fr t = 0) (u : Int) (h1 : fr ≤ u) (h2 : u < t) : wi (frL l fr t) u = !wi l u := by
  obtain ⟨hz, _, e⟩ := frF_zero h
  have hr := gd_rt (bzF_zero.1 hz).2
  rw [Bool.eq_iff_iff, wi_iff, e, (fre_cn t (nrm l) fr (nrm_cn hr)).2, nrm_cov hr, ← wi_iff]
  simp [h1, h2]
/-- Does it hold so many minutes from a time on? -/
def ftB (s n : Int) (x : Bz) : Bool := decide (x.1 ≤ s ∧ s + n ≤ x.2)
theorem slo_fit {l : List Bz} {fr t n : Int} (hf : frF l fr t = 0) (h : sloF l fr t n = 0) : (1 ≤ n ∧ n ≤ 1000000) ∧ (1 ≤ sloT l fr t n ∧ sloT l fr t n ≤ 157785119) ∧ (frL l fr t).any (ftB (sloT l fr t n) n) = true := by
  have gd := (frL_gd l fr t).1
  unfold sloF at h
  unfold sloT
  rw [if_pos hf] at h ⊢
  generalize frL l fr t = M at h gd
  unfold slE at h
  unfold slT
  by_cases c : n < 1 ∨ 1000000 < n
  · rw [if_pos c] at h
    omega
  · rw [if_neg c] at h ⊢
    have hn : 1 ≤ n ∧ n ≤ 1000000 := by omega
    rcases ha : M.any (loB n) with _ | _
    · rw [ha] at h
      simp at h
    · have key : ∀ M : List Bz, M.any (loB n) = true → ∃ x ∈ M, slI n M = x.1 ∧ loB n x = true := fun M => by
        induction M with
        | nil => intro q; simp at q
        | cons y r ih =>
          intro q
          unfold slI
          by_cases p : loB n y = true
          · rw [if_pos p]
            exact ⟨y, by simp, rfl, p⟩
          · rw [if_neg p]
            rw [List.any_cons] at q
            simp only [p] at q
            obtain ⟨x, hx, e, pl⟩ := ih (by simpa using q)
            exact ⟨x, by simp [hx], e, pl⟩
      obtain ⟨x, hx, e, pl⟩ := key M ha
      have g := gd x hx
      unfold Gd at g
      unfold loB at pl
      have pl' := of_decide_eq_true pl
      refine ⟨hn, by rw [e]; omega, List.any_eq_true.2 ⟨x, hx, ?_⟩⟩
      unfold ftB
      rw [e]
      exact decide_eq_true (by omega)
theorem joi_all {l m : List Bz} (h : joF l m = 0) (t : Int) : wi (joL l m) t = (wi l t || wi m t) ∧ bzF (joL l m) = 0 ∧ bzF l = 0 ∧ tot (nmL l) ≤ tot (nmL (joL l m)) := by
  have h' := h
  unfold joF at h
  by_cases h1 : bzF l = 0
  case neg => rw [if_neg h1] at h; exact absurd h h1
  rw [if_pos h1] at h
  by_cases h2 : bzF m = 0
  case neg => rw [if_neg h2] at h; exact absurd h h2
  rw [if_pos h2] at h
  obtain ⟨ln, gd⟩ := bzF_zero.1 h
  have hr := gd_rt gd
  have e : joL l m = nrm (l ++ m) := by unfold joL; rw [if_pos h']
  have cn := nrm_cn hr
  have wt := nrm_in hr (gd_wt gd)
  have gz : bzF (nrm (l ++ m)) = 0 := bzF_zero.2 ⟨Nat.le_trans (nrm_len hr) ln, fun x hx => by have a := wt x hx; have b := cn.2 x hx; exact ⟨by omega, by omega, by omega⟩⟩
  rw [e]
  refine ⟨?_, gz, h1, ?_⟩
  · rw [Bool.eq_iff_iff, wi_iff, nrm_cov hr, cov_app, Bool.or_eq_true, wi_iff, wi_iff]
  · rw [nmL_yes gz, nrm_self cn, nmL_yes h1]
    have hr1 := gd_rt (bzF_zero.1 h1).2
    exact tot_le (lo := 1) (k := 157785118) cn (nrm_cn hr1) wt (nrm_in hr1 (gd_wt (bzF_zero.1 h1).2)) (fun u q => by rw [nrm_cov hr, cov_app]; exact Or.inl ((nrm_cov hr1 u).1 q))
theorem fact_free : frL [(10, 20)] 5 30 = [(5, 10), (20, 30)] ∧ frF [(10, 20)] 5 30 = 0 := by decide
set_option maxRecDepth 100000 in
theorem wit_any (l : List Bz) (t : Int) (v : Value) (w : World) (hv : Rb w v l) (hl : l.length ≤ 9223372036854775807) :
    Calls Try.prog 7 #[v, .int .i64 t] w fun e w' => e = .returned (.bool (wi l t)) ∧ w' = w := by
  have HV := Lib.hid hv
  obtain ⟨a, cap, ev, _⟩ := hv
  subst ev
  obtain ⟨R, hR⟩ : ∃ R, R = wi l t := ⟨_, rfl⟩
  rw [← hR]
  have HR := Lib.hid hR
  clear hR
  go_enter Try.func7, Try.ntmps7
  go_wp2
  go_loop [5] (fun i => ∃ k : Nat, k ≤ l.length ∧ i = .int .i64 k ∧ Hid (wi (l.drop k) t = R)) (fun i => l.length - (intOf i).toNat)
  case atStart => exact ⟨0, Nat.zero_le _, rfl, Lib.hid HR.out.symm⟩
  case round =>
    obtain ⟨k, hk, rfl, HF⟩ := hrel
    by_cases hlt : k < l.length
    · obtain ⟨b, off, ea, _, c1, c2⟩ := rb_at HV.out hlt
      subst ea
      have ST : Hid (R = (decide ((l.getD k (0, 0)).1 ≤ t ∧ t < (l.getD k (0, 0)).2) || wi (l.drop (k + 1)) t)) := Lib.hid (by
        rw [← HF.out, List.drop_eq_getElem_cons hlt, wi_cons, List.getD_eq_getElem?_getD, List.getElem?_eq_getElem hlt]
        rfl)
      have bl := cell_in c1
      generalize l.getD k (0, 0) = X at c1 c2 ST
      by_cases h1 : X.1 ≤ t
      · by_cases h2 : t < X.2
        · have N : Hid (R = true) := Lib.hid (by rw [ST.out, decide_eq_true ⟨h1, h2⟩]; rfl)
          go_wp2
          go_ret
          exact ⟨ret_bool N.out.symm, rfl⟩
        · have N : Hid (wi (l.drop (k + 1)) t = R) := Lib.hid (by rw [ST.out, decide_eq_false (by omega)]; rfl)
          go_wp2
          go_round
          case rel => exact ⟨k + 1, by omega, by go_num, N⟩
          case measure => simp [intOf]; omega
      · have N : Hid (wi (l.drop (k + 1)) t = R) := Lib.hid (by rw [ST.out, decide_eq_false (by omega)]; rfl)
        go_wp2
        go_round
        case rel => exact ⟨k + 1, by omega, by go_num, N⟩
        case measure => simp [intOf]; omega
    · have N : Hid (R = false) := Lib.hid (by rw [← HF.out, List.drop_eq_nil_of_le (by omega)]; rfl)
      go_wp2
      go_ret
      exact ⟨ret_bool N.out.symm, rfl⟩
set_option maxRecDepth 100000 in
set_option maxHeartbeats 8000000 in
theorem bholds (l m : List Bz) (fr t n at_ : Int) (v u : Value) (w : World) (hv : Rb w v l) (hl : l.length ≤ 9223372036854775807) (hu : Rb w u m) (hm : m.length ≤ 9223372036854775807) :
    Calls Try.prog 3 #[v, u, .int .i64 fr, .int .i64 t, .int .i64 n, .int .i64 at_] w fun e w' => e = .returned (.bool true) ∧ Below w.heap.size w w' := by
  have HV := Lib.hid hv
  have HU := Lib.hid hu
  have b1 := below_one w (.cells #[.int .i64 10, .int .i64 20] 28)
  have K := fre_any srtH _ 5 30 _ _ (rb_one w (10, 20)) (by decide)
  rw [fact_free.1, fact_free.2] at K
  obtain ⟨W1, hW1⟩ : ∃ W1, W1 = w.alloc (.cells #[.int .i64 10, .int .i64 20] 28) := ⟨_, rfl⟩
  have hW1' : W1 = w.alloc (.cells #[.int .i64 (10, 20).1, .int .i64 (10, 20).2] 28) := hW1
  rw [← hW1'] at K
  rw [← hW1] at b1
  have K1 := Lib.hid K
  have HW1 := Lib.hid hW1
  have B1 := Lib.hid b1
  obtain ⟨av, cv, ev, _⟩ := hv
  obtain ⟨au, cu, eu, _⟩ := hu
  subst ev eu
  clear b1 hW1 hW1' K
  go_enter Try.func3, Try.ntmps3
  go_upto_region 2 with (go_at_call 5; rw [← HW1.out]; refine K1.out.mono ?_; rintro e w2 ⟨u2, rfl, ho, hb⟩; have B2 := Lib.hid (B1.out.trans (hb.mono B1.out.size)); rw [show fault 0 = .nilIface from rfl])
  obtain ⟨a2, c2, e2, _⟩ := ho.rb
  subst e2
  obtain ⟨g2, o2, ea, _, d1, d2⟩ := rb_at ho.rb (i := 0) (by decide)
  obtain ⟨g3, o3, ea3, _, d3, d4⟩ := rb_at ho.rb (i := 1) (by decide)
  rw [ea] at ea3
  simp only [Option.some.injEq, Addr.mk.injEq, and_true] at ea3
  obtain ⟨rfl, rfl⟩ := ea3
  subst ea
  have gl := cell_in d1
  simp only [List.getD_cons_zero, List.getD_cons_succ, List.length_cons, List.length_nil] at d1 d2 d3 d4 ⊢
  clear hb ho K1 HW1 B1
  go_wp2_with fail
  clear d1 d2 d3 d4 gl
  have K2 := Lib.hid (fre_any srtH l fr t _ w2 (HV.out.on B2.out) hl)
  refine K2.out.mono ?_
  rintro e w3 ⟨u3, rfl, ho, hb⟩
  have O3 := Lib.hid ho
  have B3 := Lib.hid (B2.out.trans (hb.mono B2.out.size))
  obtain ⟨aw, cw, ew, _⟩ := ho.rb
  subst ew
  clear ho hb K2
  by_cases hf : frF l fr t = 0
  case neg =>
    rw [fault_not hf]
    generalize frF l fr t = F
    clear O3
    go_wp2
    go_ret
    exact ⟨rfl, B3.out⟩
  have HF := Lib.hid hf
  have lz := (frF_zero hf).1
  have WY := Lib.hid (wi_fr hf at_)
  have WX := Lib.hid (wi_nm lz at_)
  have FLL := (frL_gd l fr t).2
  have SF := Lib.hid (slo_fit (n := n) hf)
  rw [hf, show fault 0 = .nilIface from rfl]
  have K3 := Lib.hid (nrm_any srtH l _ w3 (HV.out.on B3.out) hl)
  rw [lz] at K3
  have LZ := Lib.hid lz
  obtain ⟨FL, hFL⟩ : ∃ FL, FL = frL l fr t := ⟨_, rfl⟩
  rw [← hFL] at O3 FLL SF WY ⊢
  have NLL := nmL_len l
  obtain ⟨NL, hNL⟩ : ∃ NL, NL = nmL l := ⟨_, rfl⟩
  rw [← hNL] at K3 WX NLL
  have HNL := Lib.hid hNL
  clear hf lz hFL hNL
  go_wp2_with fail
  refine K3.out.mono ?_
  rintro e w4 ⟨u4, rfl, ho, hb⟩
  have B4 := Lib.hid (B3.out.trans (hb.mono B3.out.size))
  have O4 : Hid (Ob w4 w2.heap.size (.slice aw FL.length cw) FL) := Lib.hid (ow_below O3.out hb)
  rw [show fault 0 = .nilIface from rfl]
  have KX := Lib.hid (wit_any NL at_ u4 w4 ho.rb (Nat.le_trans NLL (by decide)))
  have KY := Lib.hid (wit_any FL at_ _ w4 O4.out.rb (Nat.le_trans FLL (by decide)))
  have KZ := Lib.hid (wit_any l at_ _ w4 (HV.out.on B4.out) hl)
  rw [WX.out] at KX
  clear ho hb K3 O3
  go_upto_region 13 with (first
    | (go_at_call_of 7 u4; refine KX.out.mono ?_; rintro e w' ⟨rfl, hw⟩; replace hw := hw.symm; subst hw)
    | (go_at_call_of 7 (Value.slice aw FL.length cw); refine KY.out.mono ?_; rintro e w' ⟨rfl, hw⟩; replace hw := hw.symm; subst hw)
    | (go_at_call_of 7 (Value.slice av l.length cv); refine KZ.out.mono ?_; rintro e w' ⟨rfl, hw⟩; replace hw := hw.symm; subst hw))
  clear KX KY KZ
  obtain ⟨x, hx⟩ : ∃ x, x = wi l at_ := ⟨_, rfl⟩
  obtain ⟨y, hy⟩ : ∃ y, y = wi FL at_ := ⟨_, rfl⟩
  rw [← hx] at WX WY ⊢
  rw [← hy] at WY ⊢
  have HX := Lib.hid hx
  clear hx hy WX
  go_cut [101] from 84 to 101 (fun s wx => s = .bool false ∧ wx = w4)
  case first =>
    by_cases p1 : fr ≤ at_
    · by_cases p2 : at_ < t
      · have Y := WY.out p1 p2
        have Y1 : (x == y) = false := by rw [Y]; cases x <;> rfl
        have Y2 : (x != x) = false := by simp
        go_wp2
        go_meet
        case rel => exact ⟨rfl, rfl⟩
      · have Y2 : (x != x) = false := by simp
        go_wp2
        go_meet
        case rel => exact ⟨rfl, rfl⟩
    · have Y2 : (x != x) = false := by simp
      go_wp2
      go_meet
      case rel => exact ⟨rfl, rfl⟩
  case rest =>
  obtain ⟨hs, hw⟩ := hcut
  replace hw := hw.symm
  subst hs
  subst hw
  have K5 := Lib.hid (slo_any srtH l fr t n _ w4 (HV.out.on B4.out) hl)
  obtain ⟨SE, hSE⟩ : ∃ SE, SE = sloF l fr t n := ⟨_, rfl⟩
  obtain ⟨ST, hST⟩ : ∃ ST, ST = sloT l fr t n := ⟨_, rfl⟩
  rw [← hSE, ← hST] at K5 SF
  clear WY hSE hST
  go_wp2_with fail
  refine K5.out.mono ?_
  rintro e w5 ⟨rfl, hb⟩
  have B5 := Lib.hid (B4.out.trans (hb.mono B4.out.size))
  have O5 : Hid (Ob w5 w2.heap.size (.slice aw FL.length cw) FL) := Lib.hid (ow_below O4.out hb)
  clear hb K5 O4
  by_cases hz : SE = 0
  case' neg =>
    rw [fault_not hz]
    clear SF O5 hz
    go_upto_region 24 with fail
  case' pos =>
    obtain ⟨⟨n1, n2⟩, ⟨s1, s2⟩, AN⟩ := SF.out hz
    have AN2 := Lib.hid AN
    rw [hz, show fault 0 = .nilIface from rfl]
    have wr1 : IntKind.i64.wrap (ST + n) = ST + n := by rw [IntKind.wrap_i64]; omega
    clear hz AN SF
    go_wp2_with fail
    go_loop [23, 24] (fun fv i => ∃ k : Nat, k ≤ FL.length ∧ i = .int .i64 k ∧ fv = .bool ((FL.take k).any (ftB ST n))) (fun _ i => FL.length - (intOf i).toNat)
    case atStart => exact ⟨0, Nat.zero_le _, rfl, rfl⟩
    case' round =>
      obtain ⟨k, hk, rfl, rfl⟩ := hrel
      by_cases hlt : k < FL.length
      case pos =>
        obtain ⟨b, off, ea, _, c1, c2⟩ := rb_at O5.out.rb hlt
        subst ea
        have STP : Hid ((FL.take (k + 1)).any (ftB ST n) = ((FL.take k).any (ftB ST n) || ftB ST n (FL.getD k (0, 0)))) := Lib.hid (by
          rw [List.take_succ_eq_append_getElem hlt, List.any_append, List.any_cons, List.any_nil, Bool.or_false, List.getD_eq_getElem?_getD, List.getElem?_eq_getElem hlt]
          rfl)
        have bl := cell_in c1
        generalize FL.getD k (0, 0) = X at c1 c2 STP
        generalize (FL.take k).any (ftB ST n) = Z at STP ⊢
        rcases Z with _ | _
        · by_cases q : X.1 ≤ ST
          · have N : Hid (decide (ST + n ≤ X.2) = (FL.take (k + 1)).any (ftB ST n)) := Lib.hid (by rw [STP.out]; unfold ftB; simp [q])
            go_wp2
            go_round
            case rel => exact ⟨k + 1, by omega, by go_num, by rw [← N.out]⟩
            case measure => simp [intOf]; omega
          · have N : Hid (false = (FL.take (k + 1)).any (ftB ST n)) := Lib.hid (by rw [STP.out]; unfold ftB; simp [q])
            go_wp2
            go_round
            case rel => exact ⟨k + 1, by omega, by go_num, by rw [← N.out]⟩
            case measure => simp [intOf]; omega
        · have N : Hid (true = (FL.take (k + 1)).any (ftB ST n)) := Lib.hid (by rw [STP.out]; rfl)
          go_wp2
          go_round
          case rel => exact ⟨k + 1, by omega, by go_num, by rw [← N.out]⟩
          case measure => simp [intOf]; omega
      have N : (FL.take k).any (ftB ST n) = true := by rw [List.take_of_length_le (by omega)]; exact AN2.out
      rw [N]
      clear N n1 n2 s1 s2 AN2 wr1 O5
      go_upto_region 24 with fail
      clear hk hlt
  all_goals
    have K6 := Lib.hid (joi_any srtH l m _ _ w5 (HV.out.on B5.out) (HU.out.on B5.out) hl hm)
    go_wp2_with fail
    refine K6.out.mono ?_
    rintro e w6 ⟨u6, rfl, ho, hb⟩
    have B6 := Lib.hid (B5.out.trans (hb.mono B5.out.size))
    have O6 := Lib.hid ho
    clear ho hb K6
    by_cases hj : joF l m = 0
    case neg =>
      rw [fault_not hj]
      generalize joF l m = F
      generalize joL l m = J at O6
      clear O6
      go_wp2
      go_ret
      exact ⟨rfl, B6.out⟩
    obtain ⟨j1, j2, _, j3⟩ := joi_all hj at_
    rw [hj, show fault 0 = .nilIface from rfl]
    have JL : (joL l m).length ≤ 200 := (bzF_zero.1 j2).1
    have KP := Lib.hid (wit_any (joL l m) at_ u6 w6 O6.out.rb (Nat.le_trans JL (by decide)))
    have KQ := Lib.hid (wit_any m at_ _ w6 (HU.out.on B6.out) hm)
    have KT := Lib.hid (tot_any srtH (joL l m) u6 w6 O6.out.rb (Nat.le_trans JL (by decide)))
    rw [j1] at KP
    rw [j2] at KT
    have KU : Hid (∀ W, Below w.heap.size w W → Calls Try.prog 10 #[.slice av l.length cv] W (TtA W (tot (nmL l)) 0)) := Lib.hid (fun W q => by
      have := tot_any srtH l _ W (HV.out.on q) hl
      rwa [LZ.out] at this)
    rw [← HX.out] at KP
    generalize tot (nmL (joL l m)) = T1 at KT j3
    generalize tot (nmL l) = T2 at KU j3
    generalize wi m at_ = q at KP KQ
    clear hj j1 j2 JL HX O6
    go_wp2_with (first
      | (go_at_call_of 7 u6; refine KP.out.mono ?_; rintro e w' ⟨rfl, hw⟩; replace hw := hw.symm; subst hw)
      | (go_at_call_of 7 (Value.slice au m.length cu); refine KQ.out.mono ?_; rintro e w' ⟨rfl, hw⟩; replace hw := hw.symm; subst hw)
      | (go_at_call_of 10 u6; refine KT.out.mono ?_; rintro e w7 ⟨rfl, hb⟩; have B7 := Lib.hid (B6.out.trans (hb.mono B6.out.size)); clear hb KT KP KQ; rw [show fault 0 = .nilIface from rfl]))
    refine (KU.out w7 B7.out).mono ?_
    rintro e w8 ⟨rfl, hb⟩
    have B8 := Lib.hid (B7.out.trans (hb.mono B7.out.size))
    rw [show fault 0 = .nilIface from rfl]
    clear hb KU
    have E1 : ((x || q) == (x || q)) = true := by simp
    have E2 : decide (T2 ≤ T1) = true := decide_eq_true j3
    rcases x with _ | _
    · go_wp2
      go_ret
      exact ⟨ret_bool (by simp), B8.out⟩
    · go_wp2
      go_ret
      exact ⟨ret_bool (by simp), B8.out⟩
end Go.Proofs.Ytiapdldeknijaaa.Bz
