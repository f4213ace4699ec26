/-
  What is proved here: WheelPlays returns true, whatever number, steps and rings it is handed (its walk over the translation).
-/
import Derived.Test.YtpnbnnndpbjgmaaDoorWhPlW
import Derived.Deep.Cut
import Derived.Deep.CutRange
import Derived.Deep.CutBlock
namespace Go.Proofs.YtpnbnnndpbjgmaaDoor.Qu
open Go.RowKit

theorem wl_new2 {w w' : World} {now : Int} {e : Ending} (hn : ist now = true) (h : WnA now w e w') : Wl w' w.heap.size S0 now [] := ⟨fun _ => [], h.2.2.2, Iv.new (ist_in hn).1 (ist_in hn).2⟩
theorem wp_start {w W1 W2 : World} {now : Int} {e : Ending} (hn : ist now = true) (h : WnA now w e W1) (q : Below W1.heap.size W1 W2) : Wp w W2 w.heap.size S0 now (.slice none 0 0) [] :=
  ⟨(wl_new2 hn h).onB q, Rw.nil _, Nat.le_refl _, h.2.1.trans (q.mono h.2.1.size), fun k hk => by cases hk⟩
set_option maxRecDepth 100000 in
theorem wplays_no (now : Int) (vs v : Value) (w : World) (hn : ist now = false) (hg : ErrTy w) :
    Calls Tryd.prog 3 #[.int .i64 now, vs, v] w fun e w' => e = .returned (.bool true) ∧ Below w.heap.size w w' := by
  have KT : Hid (Calls Tryd.prog 4 #[.int .i64 now] w fun e w' => e = .returned (.bool false) ∧ w' = w) := Lib.hid (by rw [← hn]; exact refTime_any now w)
  have KE : Hid (Calls Tryd.prog 6 #[.iface 47 (.int .i64 1), .int .i64 1] w fun e w' => e = .returned (.bool true) ∧ Below w.heap.size w w') := Lib.hid ((error_errno 1 1 w hg).mono (fun e w' ⟨he, hb⟩ => ⟨by rw [he]; simp, hb⟩))
  go_enter Tryd.func3, Tryd.ntmps3
  go_wp2_with (first
    | (go_at_call 4; refine KT.out.mono ?_; rintro e w' ⟨rfl, hw⟩; replace hw := hw.symm; subst hw)
    | (go_at_call 5; refine (wnew_no now _ hn).mono ?_; rintro e w' ⟨rfl, hw⟩; replace hw := hw.symm; subst hw)
    | (go_at_call 6; refine KE.out.mono ?_; rintro e w2 ⟨rfl, hb⟩))
  go_ret
  exact ⟨rfl, hb⟩
set_option maxHeartbeats 8000000 in
set_option maxRecDepth 100000 in
theorem wplays (now : Int) (St : List (List Int)) (l : List Rq) (vs v : Value) (w : World) (hs : Sts w vs St) (hr : Rd w v l) (hS : St.length ≤ 9223372036854775807) (hl : l.length ≤ 9223372036854775807) (hg : ErrTy w) :
    Calls Tryd.prog 3 #[.int .i64 now, vs, v] w fun e w' => e = .returned (.bool true) ∧ Below w.heap.size w w' := by
  rcases hn : ist now with _ | _
  · exact wplays_no now vs v w hn hg
  obtain ⟨a, cap, rfl, _⟩ := id hr
  obtain ⟨sa, scap, rfl, _⟩ := id hs
  have HR := Lib.hid hr
  have HST := Lib.hid hs
  have HG := Lib.hid hg
  have HLL := Lib.hid hl
  have HSL := Lib.hid hS
  have KT : Hid (Calls Tryd.prog 4 #[.int .i64 now] w fun e w' => e = .returned (.bool true) ∧ w' = w) := Lib.hid (by rw [← hn]; exact refTime_any now w)
  clear hr hs hg
  go_enter Tryd.func3, Tryd.ntmps3
  go_upto_region 6 with (first
    | (go_at_call 4; refine KT.out.mono ?_; rintro e w' ⟨rfl, hw⟩; replace hw := hw.symm; subst hw)
    | (go_at_call 5; refine (wnew_yes now _ hn).mono ?_; intro e W1 hN1; have N1 := Lib.hid hN1; have hE := hN1.1; clear hN1; subst hE))
  go_upto_region 7 with (go_at_call 6; refine (wp_err0 _).mono ?_; rintro e W2 ⟨rfl, B2⟩)
  have P0 := Lib.hid (wp_start hn N1.out B2.out)
  clear KT N1 B2
  go_upto_block 0 with fail
  go_cut [0, 6, 7, 8, 11, 12, 13, 14, 15, 16, 17, 18, 19, 20, 21, 22, 23, 24, 25, 26, 27, 28] from 48 to 235 (fun _ _ _ _ _ _ _ _ _ _ _ _ _ _ _ _ _ _ _ _ _ _ wx => Below w.heap.size w wx)
  case rest =>
    go_wp2
    go_ret
    exact ⟨rfl, hcut⟩
  case first =>
  go_wp2_with fail
  go_loopw [0, 7, 8, 11, 12, 13, 14, 15, 16, 17, 18, 19, 20, 21, 22, 23, 24, 25, 26, 27, 28] (fun nv _ _ _ mv i _ _ _ _ _ _ _ _ _ _ _ _ _ _ _ wr => ∃ (k : Nat) (S : Nat → Value) (t : Int) (m : Value) (M : List Rq), k ≤ 80 ∧ k ≤ St.length ∧ nv = .int .i64 t ∧ mv = m ∧ i = .int .i64 k ∧ Hid (ist t = true) ∧ Hid (M.length ≤ k) ∧ Hid (Wp w wr w.heap.size S t m M)) (fun _ _ _ _ _ i _ _ _ _ _ _ _ _ _ _ _ _ _ _ _ _ => 80 - (intOf i).toNat)
  case atStart => exact ⟨0, _, now, _, [], by omega, by omega, rfl, rfl, rfl, Lib.hid hn, Lib.hid (by simp), P0⟩
  case round =>
    clear P0
    obtain ⟨k, S, t, m, M, hk, hkS, rfl, hmv, rfl, HT, ML, PP⟩ := hrel
    replace hmv := hmv.symm
    subst hmv
    by_cases hlt : k < St.length ∧ k < 80
    · obtain ⟨h1, h2⟩ := hlt
      obtain ⟨VB, hVB⟩ : ∃ VB, VB = wr.heap.size := ⟨_, rfl⟩
      obtain ⟨W2, hW2⟩ : ∃ W2, W2 = wr.alloc (.cells #[.int .i64 0, .int .i64 0, .int .i64 0] 31) := ⟨_, rfl⟩
      have HW2 : Hid (wr.alloc (.cells #[.int .i64 0, .int .i64 0, .int .i64 0] 31) = W2) := Lib.hid hW2.symm
      have V2 : Hid (Vt W2 VB 0 0 0) := Lib.hid (by rw [hW2, hVB]; exact heap_alloc_new wr _)
      have P2 : Hid (Wp w W2 w.heap.size S t m M) := Lib.hid (by rw [hW2]; exact PP.out.on (below_alloc _ _))
      have NV : Hid (¬ Ft w.heap.size S VB ∧ m.ownBlock ≠ some VB ∧ w.heap.size ≤ VB) := Lib.hid (by
        have := (PP.out.q.inw (Or.inl rfl)).2
        exact ⟨fun e => by have := (PP.out.q.inw e).2; omega, fun e => by have := (PP.out.ap _ e).2; omega, by omega⟩)
      clear hW2
      have d01 : decide ((k : Int) < (St.length : Int)) = true := decide_eq_true (by omega)
      have d02 : decide ((k : Int) < 80) = true := decide_eq_true (by omega)
      go_upto_block 2 with fail
      rw [HW2.out, ← hVB]
      clear hVB HW2 PP
      go_cut [15] from 58 to 79 (fun _ wx => ∃ x0 x1 x2 : Int, Vt wx VB x0 x1 x2 ∧ Wp w wx w.heap.size S t m M)
      case first =>
        -- {A
        as_aux_lemma =>
        go_wp2_with fail
        go_loopw [15] (fun j wx => ∃ (q : Nat) (x0 x1 x2 : Int), q ≤ 3 ∧ j = .int .i64 q ∧ Hid (Vt wx VB x0 x1 x2) ∧ Hid (Wp w wx w.heap.size S t m M)) (fun j _ => 3 - (intOf j).toNat)
        case atStart => exact ⟨0, 0, 0, 0, by omega, rfl, V2, P2⟩
        case round =>
          obtain ⟨q, x0, x1, x2, hq, rfl, VX, PX⟩ := hrel
          obtain ⟨sa', scap', es, hc⟩ := HST.out.on PX.out.below
          injection es with es1 es2 es3
          subst es1; subst es3
          rcases hc with hc | ⟨sb, soff, rfl, hc⟩
          · rw [hc] at h1; simp at h1
          obtain ⟨uu, cu, ia, icap, rfl, hi⟩ := hc k h1
          generalize St.getD k [] = row at cu hi
          have sbl := cell_in cu
          clear hc es2
          by_cases hin : q < row.length ∧ q < 3
          · obtain ⟨i1, i2⟩ := hin
            rcases hi with hi | ⟨ib, ioff, rfl, hi⟩
            · rw [hi] at i1; simp at i1
            have ci := hi q i1
            generalize row.getD q 0 = y at ci
            have ibl := cell_in ci
            obtain ⟨_, _, _, f0⟩ := VX.out.cells
            have ft := f0 q
            have vl := VX.out.lt
            have d1 : decide ((q : Int) < (row.length : Int)) = true := decide_eq_true (by omega)
            have d2 : decide ((q : Int) < 3) = true := decide_eq_true (by omega)
            have N3 : Hid (∀ o uu, Wp w (wr.setCell ⟨VB, o, none⟩ uu) w.heap.size S t m M) := Lib.hid (fun o uu => PX.out.cell NV.out.1 NV.out.2.1 NV.out.2.2)
            obtain ⟨xt, vt⟩ := VX.out.at i2
            obtain ⟨y0, y1, y2, VN⟩ := VX.out.set i2 y
            have VY := Lib.hid VN
            clear VN f0 hi
            have t2 : (q : Int) < 3 := by omega
            go_wp2
            go_roundw
            case rel => exact ⟨q + 1, y0, y1, y2, by omega, by go_num, VY, Lib.hid (N3.out _ _)⟩
            case measure => simp [intOf]; omega
          · rw [Classical.not_and_iff_not_or_not] at hin
            have RL : Hid (∃ x0 x1 x2 : Int, Vt wr VB x0 x1 x2 ∧ Wp w wr w.heap.size S t m M) := Lib.hid ⟨x0, x1, x2, VX.out, PX.out⟩
            clear hi
            go_wp2
            all_goals
              go_meet
              case rel => exact RL.out
        -- }A
      case rest =>
      obtain ⟨x0, x1, x2, VX, PX⟩ := hcut
      obtain ⟨RB, hRB⟩ : ∃ RB, RB = wc.heap.size := ⟨_, rfl⟩
      obtain ⟨W4, hW4⟩ : ∃ W4, W4 = wc.alloc (.cells #[.int .i64 0, .string ⟨#[]⟩, .int .i64 0, .int .i64 0, .int .i64 0] 34) := ⟨_, rfl⟩
      have HW4 : Hid (wc.alloc (.cells #[.int .i64 0, .string ⟨#[]⟩, .int .i64 0, .int .i64 0, .int .i64 0] 34) = W4) := Lib.hid hW4.symm
      have V4 : Hid (Vt W4 VB x0 x1 x2) := Lib.hid (by rw [hW4]; exact VX.on (below_alloc _ _))
      have P4 : Hid (Wp w W4 w.heap.size S t m M) := Lib.hid (by rw [hW4]; exact PX.on (below_alloc _ _))
      have L4 : Hid (Lies W4 RB (encQ zq)) := Lib.hid (by rw [hW4, hRB]; exact heap_alloc_new wc _)
      have NR : Hid (¬ Ft w.heap.size S RB ∧ m.ownBlock ≠ some RB ∧ w.heap.size ≤ RB ∧ VB ≠ RB) := Lib.hid (by
        have := (PX.q.inw (Or.inl rfl)).2
        have := VX.lt
        exact ⟨fun e => by have := (PX.q.inw e).2; omega, fun e => by have := (PX.ap _ e).2; omega, by omega, by omega⟩)
      clear hW4 VX PX V2 P2
      obtain ⟨v0, v1, v2, _⟩ := V4.out.cells
      have vl := V4.out.lt
      go_upto_region 19 with fail
      rw [HW4.out, ← hRB]
      clear HW4 hRB
      go_cut [89] from 80 to 89 (fun c wx => ∃ bb : Bool, c = .bool bb ∧ (bb = true → 0 ≤ x1 ∧ x1 < (l.length : Int)) ∧ wx = W4)
      case first =>
        -- {B1
        as_aux_lemma =>
        by_cases p1 : 0 ≤ x1
        · have d1 : decide ((0 : Int) ≤ x1) = true := decide_eq_true p1
          have PH := Lib.hid p1
          go_wp2
          go_meet
          case rel => exact ⟨_, rfl, fun h => ⟨PH.out, of_decide_eq_true h⟩, rfl⟩
        · have d1 : decide ((0 : Int) ≤ x1) = false := decide_eq_false p1
          go_wp2
          go_meet
          case rel => exact ⟨false, rfl, fun h => (by cases h), rfl⟩
        -- }B1
      case rest =>
      obtain ⟨bb, rfl, hbb, hwc⟩ := hcut
      replace hwc := hwc.symm
      subst hwc
      have HBB := Lib.hid hbb
      clear hbb
      go_upto_if 89 with fail
      go_cut [15] from 89 to 94 (fun _ wx => ∃ r : Rq, Lies wx RB (encQ r) ∧ Vt wx VB x0 x1 x2 ∧ Wp w wx w.heap.size S t m M)
      case first =>
        -- {B2
        as_aux_lemma =>
        rcases bb with _ | _
        · go_wp2
          go_meet
          case rel => exact ⟨zq, L4.out, V4.out, P4.out⟩
        · obtain ⟨p1, p2⟩ := HBB.out rfl
          obtain ⟨i, rfl⟩ : ∃ i : Nat, x1 = i := ⟨x1.toNat, by omega⟩
          have hi : i < l.length := by omega
          have hR := HR.out.on P4.out.below
          obtain ⟨lb, loff, rfl⟩ : ∃ bb off, a = some ⟨bb, off, none⟩ := by
            obtain ⟨a', cap', e', hc⟩ := hR
            injection e' with e1 _ _
            rcases hc with hc | ⟨bb, off, ea, _⟩
            · rw [hc] at hi; simp at hi
            · exact ⟨bb, off, by rw [e1, ea]⟩
          have c5 := hR.at hi
          generalize l.getD i zq = y at c5
          have cl := c5.lt
          obtain ⟨k1, k2, k3, k4, k5⟩ := c5
          have RL : Hid (∀ W5, W5 = W4.setRow RB (encQ y).toArray → ∃ r : Rq, Lies W5 RB (encQ r) ∧ Vt W5 VB x0 i x2 ∧ Wp w W5 w.heap.size S t m M) := Lib.hid (fun W5 h5 => by
            obtain ⟨n1, n3, n4, n5⟩ := NR.out
            rw [h5]
            exact ⟨y, L4.out.set (encQ y), (setRow_other W4 RB VB _ n5).trans V4.out, P4.out.row n1 n3 n4⟩)
          clear hR p1 HBB
          go_wp2_with (refine ring_store rfl (.tmp 16) (.tmp 94) rfl RB y rfl rfl (encQ zq) rfl L4.out ?_; intro W5 HW5 r5; clear r5)
          go_meet
          case rel => exact RL.out W5 HW5.out
        -- }B2
      case rest =>
      obtain ⟨r, LR, VX, PX⟩ := hcut
      obtain ⟨W6, hW6⟩ : ∃ W6, W6 = wc := ⟨_, rfl⟩
      subst hW6
      have L6 := Lib.hid LR
      have P6 := Lib.hid PX
      obtain ⟨v0, v1, v2, _⟩ := VX.cells
      have vl := VX.lt
      clear V4 P4 L4 HBB LR PX VX v1
      go_upto_block 4 with fail
      go_cut [0, 7, 8, 11, 12, 17, 18, 19, 20, 21, 22, 23, 24] from 95 to 196 (fun nv _ _ told m2 _ _ _ _ _ _ _ _ wx => ∃ (S2 : Nat → Value) (t2 : Int) (m3 : Value) (M2 : List Rq), nv = .int .i64 t2 ∧ m2 = m3 ∧ told = .bool true ∧ Hid (ist t2 = true) ∧ Hid (M2.length ≤ k + 1) ∧ Hid (Wp w wx w.heap.size S2 t2 m3 M2))
      case first =>
        -- {C
        have R1 := Lib.hid L6.out.box
        obtain ⟨ma, mc, hmf⟩ := P6.out.r.form
        subst hmf
        obtain ⟨t1, t2⟩ := ist_in HT.out
        go_upto_region 40 with fail
        go_cut [154] from 155 to 155 (fun c wx => c = .bool (x0 == 0) ∧ wx = W6)
        case first =>
          go_wp2
          go_meet
          case rel => exact ⟨rfl, rfl⟩
        case rest =>
        obtain ⟨rfl, hwc⟩ := hcut
        replace hwc := hwc.symm
        subst hwc
        go_upto_if 154 with fail
        go_cut [154] from 155 to 157 (fun c wx => c = .bool (x0 == 0 || x0 == 1 || x0 == 2) ∧ wx = W6)
        case first =>
          rcases h0 : (x0 == 0) with _ | _
          · rcases h1 : (x0 == 1) with _ | _
            · go_wp2
              go_meet
              case rel => exact ⟨by rw [h0, h1]; rfl, rfl⟩
            · go_wp2
              go_meet
              case rel => exact ⟨by rw [h0, h1]; rfl, rfl⟩
          · go_wp2
            go_meet
            case rel => exact ⟨by rw [h0]; rfl, rfl⟩
        case rest =>
        obtain ⟨rfl, hwc⟩ := hcut
        replace hwc := hwc.symm
        subst hwc
        rcases hx : (x0 == 0 || x0 == 1 || x0 == 2) with _ | _
        · rcases h3 : (x0 == 3) with _ | _
          · -- {CG
            go_upto_region 23 with fail
            go_cut [106] from 99 to 106 (fun c wx => ∃ bb : Bool, c = .bool bb ∧ (bb = true → 0 ≤ x2 ∧ x2 < 100000) ∧ wx = W6)
            case first =>
              by_cases p1 : 0 ≤ x2
              · have d1 : decide ((0 : Int) ≤ x2) = true := decide_eq_true p1
                have PH := Lib.hid p1
                go_wp2
                go_meet
                case rel => exact ⟨_, rfl, fun h => ⟨PH.out, of_decide_eq_true h⟩, rfl⟩
              · have d1 : decide ((0 : Int) ≤ x2) = false := decide_eq_false p1
                go_wp2
                go_meet
                case rel => exact ⟨false, rfl, fun h => (by cases h), rfl⟩
            case rest =>
            obtain ⟨bb, rfl, hbb, hwc⟩ := hcut
            replace hwc := hwc.symm
            subst hwc
            have HBB := Lib.hid hbb
            clear hbb
            go_upto_if 106 with fail
            go_cut [20] from 106 to 110 (fun to_ wx => ∃ T : Int, to_ = .int .i64 T ∧ wx = W6)
            case first =>
              rcases bb with _ | _
              · go_wp2
                go_meet
                case rel => exact ⟨x2, rfl, rfl⟩
              · obtain ⟨p1, p2⟩ := HBB.out rfl
                clear HBB
                go_wp2
                go_meet
                case rel => exact ⟨t + x2, by go_num, rfl⟩
            case rest =>
            clear HBB
            obtain ⟨T, rfl, hwc⟩ := hcut
            replace hwc := hwc.symm
            subst hwc
            have KT : Hid (∀ X, Calls Tryd.prog 4 #[.int .i64 T] X fun e w' => e = .returned (.bool (ist T)) ∧ w' = X) := Lib.hid (fun X => refTime_any _ X)
            have KS : Hid (∀ X, Calls Tryd.prog 13 #[.slice none 0 0, .slice none 0 0] X fun e w' => e = .returned (.bool true) ∧ Below X.heap.size X w') := Lib.hid (fun X => sameRings [] _ _ X ⟨none, 0, rfl, Or.inl rfl⟩ ⟨none, 0, rfl, Or.inl rfl⟩ (by simp))
            have NO : Hid (∀ f, wgf t T = f → ¬ f = 0 → Calls Tryd.prog 12 #[.pointer (some ⟨w.heap.size, 0, none⟩), .int .i64 T] W6 fun e w' => e = .returned (.tuple #[.slice none 0 0, .iface 47 (.int .i64 f)]) ∧ Hid (Wp w w' w.heap.size S t (.slice ma M.length mc) M)) := Lib.hid (fun f hf h0 => by
              have := wp_go_no T P6.out (by rw [hf]; exact h0)
              rw [hf] at this
              exact this)
            clear v0 v2 vl R1 L6
            rcases hT2 : ist T with _ | _
            · as_aux_lemma =>
              have KG := Lib.hid (NO.out 1 (by unfold wgf; rw [if_pos hT2]) (by decide))
              rw [hT2] at KT
              clear hT2 NO
              go_wp2_with (first
                | (go_at_call 4; refine (KT.out _).mono ?_; rintro e w' ⟨rfl, hw⟩; replace hw := hw.symm; subst hw)
                | (go_at_call 12; refine KG.out.mono ?_; rintro e w1 ⟨rfl, P7⟩)
                | (go_at_call 6; refine (wp_err 1 P7.out HG.out).mono ?_; rintro e w2 ⟨rfl, B2⟩)
                | (go_at_call 13; refine (KS.out _).mono ?_; rintro e w3 ⟨rfl, hb3⟩; have B3 := Lib.hid hb3; clear hb3))
              go_meet
              case rel => exact ⟨S, t, _, M, rfl, rfl, rfl, HT, Lib.hid (by have := ML.out; omega), Lib.hid ((P7.out.on B2.out).on B3.out)⟩
            rw [hT2] at KT
            by_cases hle : T < t
            · as_aux_lemma =>
              have KG := Lib.hid (NO.out 6 (by unfold wgf; rw [if_neg (by rw [hT2]; decide), if_pos hle]) (by decide))
              clear hT2 NO
              go_wp2_with (first
                | (go_at_call 4; refine (KT.out _).mono ?_; rintro e w' ⟨rfl, hw⟩; replace hw := hw.symm; subst hw)
                | (go_at_call 12; refine KG.out.mono ?_; rintro e w1 ⟨rfl, P7⟩)
                | (go_at_call 6; refine (wp_err 6 P7.out HG.out).mono ?_; rintro e w2 ⟨rfl, B2⟩)
                | (go_at_call 13; refine (KS.out _).mono ?_; rintro e w3 ⟨rfl, hb3⟩; have B3 := Lib.hid hb3; clear hb3))
              go_meet
              case rel => exact ⟨S, t, _, M, rfl, rfl, rfl, HT, Lib.hid (by have := ML.out; omega), Lib.hid ((P7.out.on B2.out).on B3.out)⟩
            have HTT := Lib.hid hT2
            obtain ⟨d, hd⟩ : ∃ d, d = (dueQ M T).length := ⟨_, rfl⟩
            have DW := due_walk P6.out.q.rs T
            rw [← hd] at DW
            have D1 := Lib.hid DW.1
            have D2 := Lib.hid DW.2.1
            have D3 := Lib.hid DW.2.2
            have M4 : Hid (M.length ≤ 400) := Lib.hid P6.out.q.len
            have DM : Hid (d + (laterQ M T).length = M.length) := Lib.hid (by rw [hd]; exact due_later M T)
            have LATE : Hid (∀ z, z ∈ laterQ M T → T < z.1) := Lib.hid (fun z hz => (laterQ_mem.1 hz).2)
            have KG : Hid (∀ mv dv X, Lp W6 (.slice ma M.length mc) M d mv dv X → Calls Tryd.prog 12 #[.pointer (some ⟨w.heap.size, 0, none⟩), .int .i64 T] X fun e w' => ∃ u S', e = .returned (.tuple #[u, .nilIface]) ∧ Hid (Wp w w' w.heap.size S' T mv (laterQ M T) ∧ Rd w' u (dueQ M T) ∧ Rd w' dv (dueQ M T))) := Lib.hid (fun mv dv X hL => by
              obtain ⟨q1, q2, q3, q4⟩ := hL
              rw [D2.out] at q2
              rw [D3.out] at q3
              have pX := P6.out.on q1
              exact wp_go_yes T pX hT2 (by omega) q3 (fun k hk => pX.ap k (q4 k hk)) q2 (fun k hk e => by have := (q2.lt k hk).1; have := (P6.out.q.inw e).2; omega))
            have MB : Hid (∀ k, (Value.slice ma M.length mc).ownBlock = some k → k < W6.heap.size) := Lib.hid (fun k hk => (P6.out.ap k hk).2)
            have L0 : Hid (Lp W6 (.slice ma M.length mc) M 0 (.slice ma M.length mc) (.slice none 0 0) W6) := Lib.hid ⟨Below.refl _ _, World.ownsRow_nil _ _ _ _, by rw [List.drop_zero]; exact P6.out.r, fun k hk => hk⟩
            have SR : Hid (∀ u dv X, Rd X u (dueQ M T) → Rd X dv (dueQ M T) → Calls Tryd.prog 13 #[u, dv] X fun e w' => e = .returned (.bool true) ∧ Below X.heap.size X w') := Lib.hid (fun u dv X h1 h2 => sameRings _ _ _ X h1 h2 (by have := due_later M T; have := M4.out; omega))
            clear hT2 NO KS DW hd P6
            generalize hLL : (laterQ M T) = LQ at *
            generalize hDD : (dueQ M T) = DQ at *
            clear hLL hDD
            go_wp2_with (go_at_call 4; refine (KT.out _).mono ?_; rintro e w' ⟨rfl, hw⟩; replace hw := hw.symm; subst hw)
            go_loopw [12, 21] (fun mv dv wr => ∃ (j : Nat) (m1 d1 : Value), j ≤ d ∧ mv = m1 ∧ dv = d1 ∧ lnV m1 = M.length - j ∧ Hid (Lp W6 (.slice ma M.length mc) M j m1 d1 wr)) (fun mv _ _ => lnV mv)
            case atStart => exact ⟨0, _, _, Nat.zero_le _, rfl, rfl, rfl, L0⟩
            case round =>
              clear L0
              obtain ⟨j, m1, d1, hj, hm1, hd1, hln, LP⟩ := hrel
              replace hm1 := hm1.symm
              subst hm1
              replace hd1 := hd1.symm
              subst hd1
              by_cases hjd : j < d
              · obtain ⟨x, N, e1, e2, e3, e4⟩ := D1.out j hjd
                obtain ⟨a1, c1, hf0⟩ := LP.out.2.2.1.form
                obtain ⟨n1, hn1⟩ : ∃ n1, n1 = N.length + 1 := ⟨_, rfl⟩
                have hf : m1 = .slice a1 n1 c1 := by rw [hf0, e1, hn1]; rfl
                clear hf0
                subst hf
                have hRw := LP.out.2.2.1
                rw [e1] at hRw
                obtain ⟨mb, moff, hma, hml⟩ : ∃ mb moff, a1 = some ⟨mb, moff, none⟩ ∧ (x :: N).length ≤ c1 := by
                  rcases hRw.2 with ⟨_, h0⟩ | ⟨b', o', c', e, hc⟩
                  · cases h0
                  · injection e with e1' _ e3'
                    exact ⟨b', o', e1', by rw [e3']; exact hc⟩
                subst hma
                have x0c : At5 wr mb (moff + 0 * 5) x := by
                  have q := RowK.rd hRw.1
                  rw [hn1] at q
                  exact Rd.at (M := x :: N) (i := 0) q (by simp)
                simp only [Nat.zero_mul, Nat.add_zero] at x0c
                obtain ⟨y1, y2, y3, y4, y5⟩ := x0c
                have yl := cell_in y1
                rw [hn1] at LP
                obtain ⟨v', w3, ap, LP3⟩ := lp_step MB.out M4.out LP.out e1 e2 e4
                have AP := Lib.hid ap
                have HL3 := Lib.hid LP3
                have n0 : (0 : Int) < (n1 : Int) := by omega
                have n00 : 0 < n1 := by omega
                have hml2 : n1 ≤ c1 := by rw [hn1]; simpa using hml
                have NL : Hid (N.length = M.length - (j + 1)) := Lib.hid (by rw [← e2]; simp)
                have NN : Hid (n1 - 1 = N.length) := Lib.hid (by omega)
                clear e1 e2 e4 hRw ap LP3 LP hml hln
                by_cases hc : c1 = 1
                · obtain rfl : N = [] := List.eq_nil_of_length_eq_zero (by omega)
                  subst hc
                  obtain rfl : n1 = 1 := by omega
                  have HL4 : Hid (Lp W6 (.slice ma M.length mc) M (j + 1) (.slice (some ⟨mb, moff, none⟩) 0 0) v' w3) := Lib.hid (by simpa using HL3.out)
                  clear HL3 hn1 n0 n00 hml2
                  go_upto_region 34 with fail
                  go_upto_region 35 with (at_builtin; refine wpl_app _ rfl _ _ _ _ rfl _ _ rfl rfl (AP.out _) ?_)
                  go_wp2
                  go_roundw
                  case rel => exact ⟨j + 1, _, _, by omega, rfl, rfl, by have := NL.out; simpa [lnV] using this, HL4⟩
                  case measure => simp [lnV]
                · have HL4 : Hid (Lp W6 (.slice ma M.length mc) M (j + 1) (.slice (some ⟨mb, moff + 5, none⟩) (n1 - 1) (c1 - 1)) v' w3) := Lib.hid (by have := HL3.out; rw [if_neg hc] at this; rw [NN.out]; exact this)
                  have NL2 : Hid (n1 - 1 = M.length - (j + 1)) := Lib.hid (by rw [NN.out, NL.out])
                  have hc2 : ¬ c1 = 1 := hc
                  have c1p : 1 ≤ c1 := by omega
                  clear HL3 hn1 NL NN
                  go_upto_region 34 with fail
                  go_upto_region 35 with (at_builtin; refine wpl_app _ rfl _ _ _ _ rfl _ _ rfl rfl (AP.out _) ?_)
                  go_wp2
                  go_roundw
                  case rel => exact ⟨j + 1, _, _, by omega, rfl, rfl, NL2.out, HL4⟩
                  case measure => simp [lnV]; omega
              · obtain rfl : j = d := by omega
                obtain ⟨a1, c1, hf⟩ := LP.out.2.2.1.form
                subst hf
                have KG1 := Lib.hid (KG.out _ _ wr LP.out)
                have LQL : Hid (LQ.length ≤ k + 1) := Lib.hid (by have := DM.out; have := ML.out; omega)
                rw [D3.out] at KG1 LP ⊢
                rcases LQ with _ | ⟨y, N⟩
                · as_aux_lemma =>
                  clear hln D1 KG LATE
                  go_wp2_with (first
                    | (go_at_call 12; refine KG1.out.mono ?_; rintro e w1 ⟨u, S2, rfl, Q1⟩)
                    | (go_at_call 6; refine (wp_err0 _).mono ?_; rintro e w2 ⟨rfl, B2⟩; have SR2 := Lib.hid (SR.out u _ w2 (Q1.out.2.1.on B2.out) (Q1.out.2.2.on B2.out)))
                    | (go_at_call 13; refine SR2.out.mono ?_; rintro e w3 ⟨rfl, hb3⟩; have B3 := Lib.hid hb3; clear hb3))
                  go_meet
                  case rel => exact ⟨S2, T, _, [], rfl, rfl, rfl, HTT, LQL, Lib.hid ((Q1.out.1.on B2.out).on B3.out)⟩
                · as_aux_lemma =>
                  have hRw := LP.out.2.2.1
                  rw [D3.out] at hRw
                  obtain ⟨mb, moff, hma, hml⟩ : ∃ mb moff, a1 = some ⟨mb, moff, none⟩ ∧ (y :: N).length ≤ c1 := by
                    rcases hRw.2 with ⟨_, h0⟩ | ⟨b', o', c', e, hc⟩
                    · cases h0
                    · injection e with e1' _ e3'
                      exact ⟨b', o', e1', by rw [e3']; exact hc⟩
                  subst hma
                  have x0c : At5 wr mb (moff + 0 * 5) y := Rd.at (RowK.rd hRw.1) (i := 0) (by simp)
                  simp only [Nat.zero_mul, Nat.add_zero] at x0c
                  have y1 := x0c.1
                  have yl := cell_in y1
                  have hyT : ¬ y.1 ≤ T := by have := LATE.out y List.mem_cons_self; omega
                  have n0 : (0 : Int) < ((N.length + 1 : Nat) : Int) := by omega
                  clear hln D1 KG LATE hRw x0c hml
                  go_wp2_with (first
                    | (go_at_call 12; refine KG1.out.mono ?_; rintro e w1 ⟨u, S2, rfl, Q1⟩)
                    | (go_at_call 6; refine (wp_err0 _).mono ?_; rintro e w2 ⟨rfl, B2⟩; have SR2 := Lib.hid (SR.out u _ w2 (Q1.out.2.1.on B2.out) (Q1.out.2.2.on B2.out)))
                    | (go_at_call 13; refine SR2.out.mono ?_; rintro e w3 ⟨rfl, hb3⟩; have B3 := Lib.hid hb3; clear hb3))
                  go_meet
                  case rel => exact ⟨S2, T, _, y :: N, rfl, rfl, rfl, HTT, LQL, Lib.hid ((Q1.out.1.on B2.out).on B3.out)⟩
            -- }CG
          · -- {CD
            as_aux_lemma =>
            obtain ⟨r1, r2, r3, r4, r5⟩ := R1.out
            have rl := L6.out.lt
            have KO := Lib.hid (wp_off r P6.out)
            have DL : Hid ((drp M r).length ≤ M.length) := Lib.hid (List.length_filter_le _ _)
            rcases hB : hasQ M r with _ | _
            · have e1 : df M r = 5 := by unfold df; rw [hB]; rfl
              have e2 : drp M r = M := drp_none P6.out.q.rs (hasQ_not.1 hB)
              have KD : Hid (∀ X, Below W6.heap.size W6 X → Calls Tryd.prog 11 #[.pointer (some ⟨w.heap.size, 0, none⟩), agQ r] X fun e w' => e = .returned (.iface 47 (.int .i64 5)) ∧ ∃ S', Hid (Wp w w' w.heap.size S' t (.slice ma M.length mc) M)) := Lib.hid (fun X q => by
                have h0 := P6.out.on q
                have := wp_drop (m2 := .slice ma M.length mc) r h0 (by rw [e2]; exact h0.r) h0.ap
                rw [e1, e2] at this
                exact this)
              rw [hB] at KO
              clear hB e1 e2
              go_wp2_with fail
              refine KO.out.mono ?_
              rintro e w1 ⟨na, nn, nc, rfl, hb1, RW⟩
              have K1 := Lib.hid (KD.out w1 hb1)
              have R2 := Lib.hid (R1.out.on hb1)
              clear r1 r2 r3 r4 r5 rl hb1
              obtain ⟨r1, r2, r3, r4, r5⟩ := R2.out
              have rl := R2.out.lt
              go_wp2_with fail
              refine K1.out.mono ?_
              rintro e w2 ⟨rfl, S2, P7⟩
              go_wp2_with fail
              refine (wp_err 5 P7.out HG.out).mono ?_
              rintro e w3 ⟨rfl, B3⟩
              go_wp2
              go_meet
              case rel => exact ⟨S2, t, _, M, rfl, rfl, rfl, HT, Lib.hid (by have := ML.out; omega), Lib.hid (P7.out.on B3.out)⟩
            · have e1 : df M r = 0 := by unfold df; rw [hB]; rfl
              have KD : Hid (∀ X m2, Below W6.heap.size W6 X → Rw X m2 (drp M r) → (∀ k, m2.ownBlock = some k → ¬ Ft w.heap.size S k ∧ k < X.heap.size) → Calls Tryd.prog 11 #[.pointer (some ⟨w.heap.size, 0, none⟩), agQ r] X fun e w' => e = .returned .nilIface ∧ ∃ S', Hid (Wp w w' w.heap.size S' t m2 (drp M r))) := Lib.hid (fun X m2 q h1 h2 => by
                have := wp_drop (m2 := m2) r (P6.out.on q) h1 h2
                rw [e1] at this
                exact this)
              rw [hB] at KO
              clear hB e1
              go_wp2_with fail
              refine KO.out.mono ?_
              rintro e w1 ⟨na, nn, nc, rfl, hb1, RW⟩
              have K1 := Lib.hid (KD.out w1 _ hb1 RW.out.1 RW.out.2)
              have R2 := Lib.hid (R1.out.on hb1)
              clear r1 r2 r3 r4 r5 rl hb1
              obtain ⟨r1, r2, r3, r4, r5⟩ := R2.out
              have rl := R2.out.lt
              go_wp2_with fail
              refine K1.out.mono ?_
              rintro e w2 ⟨rfl, S2, P7⟩
              go_wp2_with fail
              refine (wp_err0 w2).mono ?_
              rintro e w3 ⟨rfl, B3⟩
              go_wp2
              go_meet
              case rel => exact ⟨S2, t, _, _, rfl, rfl, rfl, HT, Lib.hid (by have := ML.out; have := DL.out; omega), Lib.hid (P7.out.on B3.out)⟩
            -- }CD
        · -- {CA
          as_aux_lemma =>
          obtain ⟨r1, r2, r3, r4, r5⟩ := R1.out
          have rl := L6.out.lt
          have KT : Hid (∀ X, Calls Tryd.prog 4 #[.int .i64 r.1] X fun e w' => e = .returned (.bool (ist r.1)) ∧ w' = X) := Lib.hid (fun X => refTime_any _ X)
          have KH := Lib.hid (wp_has r P6.out)
          have NO : Hid (∀ f, waf t M r = f → ¬ f = 0 → ∀ X, Below W6.heap.size W6 X → Calls Tryd.prog 9 #[.pointer (some ⟨w.heap.size, 0, none⟩), agQ r] X fun e w' => e = .returned (.iface 47 (.int .i64 f)) ∧ ∃ S', Hid (Wp w w' w.heap.size S' t (.slice ma M.length mc) M)) := Lib.hid (fun f hf h0 X q => by
            have := wp_add_no r (P6.out.on q) (by rw [hf]; exact h0)
            rw [hf] at this
            exact this)
          rcases hT : ist r.1 with _ | _
          · have KP := Lib.hid (NO.out 1 (by unfold waf; rw [if_pos hT]) (by decide))
            rw [hT] at KT
            clear hT NO
            go_upto_region 44 with (go_at_call 4; refine (KT.out _).mono ?_; rintro e w' ⟨rfl, hw⟩; replace hw := hw.symm; subst hw)
            go_wp2_with fail
            refine KH.out.mono ?_
            rintro e w1 ⟨rfl, hb1⟩
            have K1 := Lib.hid (KP.out w1 hb1)
            have R2 := Lib.hid (R1.out.on hb1)
            clear r1 r2 r3 r4 r5 rl hb1
            obtain ⟨r1, r2, r3, r4, r5⟩ := R2.out
            have rl := R2.out.lt
            go_wp2_with fail
            refine K1.out.mono ?_
            rintro e w2 ⟨rfl, S2, P7⟩
            go_wp2_with fail
            refine (wp_err 1 P7.out HG.out).mono ?_
            rintro e w3 ⟨rfl, B3⟩
            go_wp2
            go_meet
            case rel => exact ⟨S2, t, _, M, rfl, rfl, rfl, HT, Lib.hid (by have := ML.out; omega), Lib.hid (P7.out.on B3.out)⟩
          rw [hT] at KT
          by_cases hN : r.1 ≤ t
          · have KP := Lib.hid (NO.out 6 (by unfold waf; rw [if_neg (by rw [hT]; decide), if_pos hN]) (by decide))
            have d1 : decide (r.1 ≤ t) = true := decide_eq_true hN
            clear hT NO
            go_upto_region 44 with (go_at_call 4; refine (KT.out _).mono ?_; rintro e w' ⟨rfl, hw⟩; replace hw := hw.symm; subst hw)
            go_wp2_with fail
            refine KH.out.mono ?_
            rintro e w1 ⟨rfl, hb1⟩
            have K1 := Lib.hid (KP.out w1 hb1)
            have R2 := Lib.hid (R1.out.on hb1)
            clear r1 r2 r3 r4 r5 rl hb1
            obtain ⟨r1, r2, r3, r4, r5⟩ := R2.out
            have rl := R2.out.lt
            go_wp2_with fail
            refine K1.out.mono ?_
            rintro e w2 ⟨rfl, S2, P7⟩
            go_wp2_with fail
            refine (wp_err 6 P7.out HG.out).mono ?_
            rintro e w3 ⟨rfl, B3⟩
            go_wp2
            go_meet
            case rel => exact ⟨S2, t, _, M, rfl, rfl, rfl, HT, Lib.hid (by have := ML.out; omega), Lib.hid (P7.out.on B3.out)⟩
          have d1 : decide (r.1 ≤ t) = false := decide_eq_false hN
          rcases hB : hasQ M r with _ | _
          · have hF : ¬ (400 : Int) ≤ (M.length : Int) := by have := ML.out; omega
            have e1 : waf t M r = 0 := by unfold waf; rw [if_neg (by rw [hT]; decide), if_neg hN, if_neg (by rw [hB]; decide), if_neg (by omega)]
            have KA := Lib.hid (fun X (q : Below W6.heap.size W6 X) => wp_radd r (P6.out.on q) (hasQ_not.1 hB))
            have KP := Lib.hid (fun X m2 (q : Below W6.heap.size W6 X) h1 h2 => wp_add_yes (m2 := m2) r (P6.out.on q) e1 h1 h2)
            have PL : Hid ((put M r).length = M.length + 1) := Lib.hid (put_len1 P6.out.q.rs (hasQ_not.1 hB))
            rw [hB] at KH
            clear hT e1 hB NO
            go_upto_region 44 with (go_at_call 4; refine (KT.out _).mono ?_; rintro e w' ⟨rfl, hw⟩; replace hw := hw.symm; subst hw)
            go_wp2_with fail
            refine KH.out.mono ?_
            rintro e w1 ⟨rfl, hb1⟩
            have K1 := Lib.hid (KA.out w1 hb1)
            have R2 := Lib.hid (R1.out.on hb1)
            have B1 := Lib.hid hb1
            clear r1 r2 r3 r4 r5 rl hb1
            obtain ⟨r1, r2, r3, r4, r5⟩ := R2.out
            have rl := R2.out.lt
            go_wp2_with fail
            refine K1.out.mono ?_
            rintro e w2 ⟨na, nn, nc, rfl, hb2, RW⟩
            have B2 := Lib.hid (B1.out.trans (hb2.mono B1.out.size))
            have K2 := Lib.hid (KP.out w2 _ B2.out RW.out.1 RW.out.2)
            have R3 := Lib.hid (R2.out.on hb2)
            clear r1 r2 r3 r4 r5 rl hb2
            obtain ⟨r1, r2, r3, r4, r5⟩ := R3.out
            have rl := R3.out.lt
            go_wp2_with fail
            refine K2.out.mono ?_
            rintro e w3 ⟨rfl, S2, P7⟩
            go_wp2_with fail
            refine (wp_err0 w3).mono ?_
            rintro e w4 ⟨rfl, B4⟩
            go_wp2
            go_meet
            case rel => exact ⟨S2, t, _, _, rfl, rfl, rfl, HT, Lib.hid (by rw [PL.out]; have := ML.out; omega), Lib.hid (P7.out.on B4.out)⟩
          · have KP := Lib.hid (NO.out 7 (by unfold waf; rw [if_neg (by rw [hT]; decide), if_neg hN, if_pos hB]) (by decide))
            rw [hB] at KH
            clear hT NO hB
            go_upto_region 44 with (go_at_call 4; refine (KT.out _).mono ?_; rintro e w' ⟨rfl, hw⟩; replace hw := hw.symm; subst hw)
            go_wp2_with fail
            refine KH.out.mono ?_
            rintro e w1 ⟨rfl, hb1⟩
            have K1 := Lib.hid (KP.out w1 hb1)
            have R2 := Lib.hid (R1.out.on hb1)
            clear r1 r2 r3 r4 r5 rl hb1
            obtain ⟨r1, r2, r3, r4, r5⟩ := R2.out
            have rl := R2.out.lt
            go_wp2_with fail
            refine K1.out.mono ?_
            rintro e w2 ⟨rfl, S2, P7⟩
            go_wp2_with fail
            refine (wp_err 7 P7.out HG.out).mono ?_
            rintro e w3 ⟨rfl, B3⟩
            go_wp2
            go_meet
            case rel => exact ⟨S2, t, _, M, rfl, rfl, rfl, HT, Lib.hid (by have := ML.out; omega), Lib.hid (P7.out.on B3.out)⟩
          -- }CA
        -- }C
      case rest =>
      clear P6 L6 ML HT NV NR v0 v2 vl
      obtain ⟨S2, t2, m3, M2, rfl, hm3, rfl, HT, ML, P7⟩ := hcut
      replace hm3 := hm3.symm
      subst hm3
      -- {D
      as_aux_lemma =>
      have KN := Lib.hid (wp_next P7.out)
      have KW : Hid (∀ X, Below wc.heap.size wc X → Calls Tryd.prog 15 #[.pointer (some ⟨w.heap.size, 0, none⟩)] X fun e w' => e = .returned (.int .i64 t2) ∧ w' = X) := Lib.hid (fun X q => wp_now (P7.out.on q))
      have KL : Hid (∀ X, Below wc.heap.size wc X → Calls Tryd.prog 16 #[.pointer (some ⟨w.heap.size, 0, none⟩)] X fun e w' => e = .returned (.int .i64 (M2.length : Int)) ∧ w' = X) := Lib.hid (fun X q => wp_len (P7.out.on q))
      obtain ⟨ma, mc, hmf⟩ := P7.out.r.form
      subst hmf
      rcases M2 with _ | ⟨x, N⟩
      · have KE := Lib.hid (fun X (q : Below wc.heap.size wc X) => wp_err 5 (P7.out.on q) HG.out)
        have KN2 : Hid (Calls Tryd.prog 14 #[.pointer (some ⟨w.heap.size, 0, none⟩)] wc fun e w' => e = .returned (.tuple #[.int .i64 0, .iface 47 (.int .i64 5)]) ∧ Hid (Below wc.heap.size wc w')) := KN
        clear KN
        go_upto_region 68 with fail
        go_upto_region 69 with (go_at_call 14; refine KN2.out.mono ?_; rintro e w1 ⟨rfl, B1⟩)
        have K9 := Lib.hid (KE.out w1 B1.out)
        go_upto_region 70 with (go_at_call 6; refine K9.out.mono ?_; rintro e w2 ⟨rfl, B2⟩)
        have B3 := Lib.hid (B1.out.trans (B2.out.mono B1.out.size))
        have KW2 := Lib.hid (KW.out w2 B3.out)
        have KL2 := Lib.hid (KL.out w2 B3.out)
        clear KW KL KE KN2 K9 B1 B2
        go_wp2_with (first
          | (go_at_call 15; refine KW2.out.mono ?_; rintro e w' ⟨rfl, hw⟩; replace hw := hw.symm; subst hw)
          | (go_at_call 16; refine KL2.out.mono ?_; rintro e w' ⟨rfl, hw⟩; replace hw := hw.symm; subst hw))
        go_roundw
        case rel => exact ⟨k + 1, S2, t2, _, [], by omega, by omega, rfl, rfl, by go_num, HT, Lib.hid (by simp), Lib.hid (P7.out.on B3.out)⟩
        case measure => simp [intOf]; omega
      · have hRw := P7.out.r
        obtain ⟨mb, moff, hma, hml⟩ : ∃ mb moff, ma = some ⟨mb, moff, none⟩ ∧ (x :: N).length ≤ mc := by
          rcases hRw.2 with ⟨_, h0⟩ | ⟨b', o', c', e, hc⟩
          · cases h0
          · injection e with e1 _ e3
            exact ⟨b', o', e1, by rw [e3]; exact hc⟩
        subst hma
        have x0c : At5 wc mb (moff + 0 * 5) x := Rd.at (RowK.rd hRw.1) (i := 0) (by simp)
        simp only [Nat.zero_mul, Nat.add_zero] at x0c
        have y1 := x0c.1
        have yl := cell_in y1
        obtain ⟨n, hn'⟩ : ∃ n, n = (x :: N).length := ⟨_, rfl⟩
        have n0 : (0 : Int) < (n : Int) := by rw [hn']; simp
        have n1 : ¬ n = 0 := by omega
        have KN2 : Hid (Calls Tryd.prog 14 #[.pointer (some ⟨w.heap.size, 0, none⟩)] wc fun e w' => e = .returned (.tuple #[.int .i64 x.1, .nilIface]) ∧ Hid (Below wc.heap.size wc w')) := KN
        have ML2 : Hid (n ≤ k + 1) := Lib.hid (by rw [hn']; exact ML.out)
        have ML3 := ML2.out
        have P8 : Hid (∀ X, Below wc.heap.size wc X → Wp w X w.heap.size S2 t2 (.slice (some ⟨mb, moff, none⟩) n mc) (x :: N)) := Lib.hid (fun X q => by rw [hn']; exact P7.out.on q)
        have HNL := Lib.hid hn'
        rw [← hn'] at KL ⊢
        clear KN hRw x0c P7 ML hn' hml
        go_upto_region 68 with fail
        go_upto_region 69 with (go_at_call 14; refine KN2.out.mono ?_; rintro e w1 ⟨rfl, B1⟩)
        have K9 := Lib.hid (wp_err0 w1)
        clear y1 yl
        go_upto_region 70 with (go_at_call 6; refine K9.out.mono ?_; rintro e w2 ⟨rfl, B2⟩)
        have B3 := Lib.hid (B1.out.trans (B2.out.mono B1.out.size))
        have KW2 := Lib.hid (KW.out w2 B3.out)
        have KL2 := Lib.hid (KL.out w2 B3.out)
        clear KW KL KN2 K9 B1 B2
        go_wp2_with (first
          | (go_at_call 15; refine KW2.out.mono ?_; rintro e w' ⟨rfl, hw⟩; replace hw := hw.symm; subst hw)
          | (go_at_call 16; refine KL2.out.mono ?_; rintro e w' ⟨rfl, hw⟩; replace hw := hw.symm; subst hw))
        go_roundw
        case rel => exact ⟨k + 1, S2, t2, _, x :: N, by omega, by omega, rfl, rfl, by go_num, HT, Lib.hid (by rw [← HNL.out]; exact ML2.out), Lib.hid (P8.out _ B3.out)⟩
        case measure => simp [intOf]; omega
      -- }D
    · rw [Classical.not_and_iff_not_or_not] at hlt
      have BE := Lib.hid PP.out.below
      go_wp2
      all_goals
        go_meet
        exact BE.out
end Go.Proofs.YtpnbnnndpbjgmaaDoor.Qu
