/-
  What is proved here: QueuePlays returns true, whatever steps and rings it is handed (its walk over the translation).
-/
import Derived.Test.YtkdmdkjkabfiaaaDoorQuPlP
import Derived.Deep.Cut
import Derived.Deep.CutRange
import Derived.Deep.CutBlock
namespace Go.Proofs.YtkdmdkjkabfiaaaDoor.Qu
open Go.RowKit

set_option maxHeartbeats 8000000 in
set_option maxRecDepth 100000 in
theorem qplays (S : List (List Int)) (l : List Rq) (vs v : Value) (w : World) (hs : Sts w vs S) (hr : Rd w v l) (hS : S.length ≤ 9223372036854775807) (hl : l.length ≤ 9223372036854775807) (hg : ErrTy w) :
    Calls Tryd.prog 4 #[vs, v] w fun e w' => e = .returned (.bool true) ∧ Below w.heap.size w w' := by
  obtain ⟨a, cap, rfl, _⟩ := id hr
  obtain ⟨sa, scap, rfl, _⟩ := id hs
  have HR := Lib.hid hr
  have HST := Lib.hid hs
  have HG := Lib.hid hg
  have HLL := Lib.hid hl
  have HSL := Lib.hid hS
  obtain ⟨W1, hW1⟩ : ∃ W1, W1 = w.alloc (.cells #[.slice none 0 0] 48) := ⟨_, rfl⟩
  have HW : Hid (w.alloc (.cells #[.slice none 0 0] 48) = W1) := Lib.hid hW1.symm
  have P0 : Hid (Pl w W1 w.heap.size (.slice none 0 0) (.slice none 0 0) []) := Lib.hid (by
    rw [hW1]
    exact ⟨qs_new w, Rw.nil _, Rs.nil, below_alloc _ _, fun k hk => by cases hk⟩)
  clear hW1 hr hs hg
  go_enter Tryd.func4, Tryd.ntmps4
  go_wp2_with (go_at_call 5; refine (new_any _).mono ?_; rintro e w' ⟨rfl, rfl⟩)
  rw [HW.out]
  go_loopw [6, 7] (fun mv i wr => ∃ (k : Nat) (u m : Value) (M : List Rq), k ≤ 80 ∧ k ≤ S.length ∧ mv = m ∧ i = .int .i64 k ∧ Hid (M.length ≤ k) ∧ Hid (Pl w wr w.heap.size u m M)) (fun _ i _ => 80 - (intOf i).toNat)
  case atStart => exact ⟨0, _, _, [], by omega, by omega, rfl, rfl, Lib.hid (by simp), P0⟩
  case round =>
    obtain ⟨k, u, m, M, hk, hkS, hmv, rfl, ML, PP⟩ := hrel
    replace hmv := hmv.symm
    subst hmv
    by_cases hlt : k < S.length ∧ k < 80
    · obtain ⟨h1, h2⟩ := hlt
      obtain ⟨VB, hVB⟩ : ∃ VB, VB = wr.heap.size := ⟨_, rfl⟩
      obtain ⟨W2, hW2⟩ : ∃ W2, W2 = wr.alloc (.cells #[.int .i64 0, .int .i64 0] 38) := ⟨_, rfl⟩
      have HW2 : Hid (wr.alloc (.cells #[.int .i64 0, .int .i64 0] 38) = W2) := Lib.hid hW2.symm
      have V2 : Hid (Vv W2 VB 0 0) := Lib.hid (by rw [hW2, hVB]; exact heap_alloc_new wr _)
      have P2 : Hid (Pl w W2 w.heap.size u m M) := Lib.hid (by rw [hW2]; exact PP.out.on (below_alloc _ _))
      have NV : Hid (VB ≠ w.heap.size ∧ u.ownBlock ≠ some VB ∧ m.ownBlock ≠ some VB ∧ w.heap.size ≤ VB) := Lib.hid (by
        have := PP.out.q.lt
        exact ⟨by omega, fun e => by have := (PP.out.q.own.lt _ e).2; omega, fun e => by have := (PP.out.ap _ e).2.2; omega, by omega⟩)
      clear hW2
      go_upto_block 2 with fail
      rw [HW2.out, ← hVB]
      clear hVB HW2 PP
      go_cut [9] from 29 to 178 (fun s9 wx => ∃ x0 x1 : Int, Vv wx VB x0 x1 ∧ Pl w wx w.heap.size u m M)
      case first =>
        as_aux_lemma =>
          go_wp2_with fail
          go_loopw [9] (fun j wx => ∃ (t : Nat) (x0 x1 : Int), t ≤ 2 ∧ j = .int .i64 t ∧ Hid (Vv wx VB x0 x1) ∧ Hid (Pl w wx w.heap.size u m M)) (fun j _ => 2 - (intOf j).toNat)
          case atStart => exact ⟨0, 0, 0, by omega, rfl, V2, P2⟩
          case round =>
            obtain ⟨t, x0, x1, ht, rfl, VX, PX⟩ := hrel
            obtain ⟨sa', scap', es, hc⟩ := HST.out.on PX.out.below
            injection es with es1 es2 es3
            subst es1; subst es3
            rcases hc with hc | ⟨sb, soff, rfl, hc⟩
            · rw [hc] at h1; simp at h1
            obtain ⟨uu, cu, ia, icap, rfl, hi⟩ := hc k h1
            generalize S.getD k [] = row at cu hi
            have sbl := cell_in cu
            clear hc es2
            by_cases hin : t < row.length ∧ t < 2
            · obtain ⟨i1, i2⟩ := hin
              rcases hi with hi | ⟨ib, ioff, rfl, hi⟩
              · rw [hi] at i1; simp at i1
              have ci := hi t i1
              generalize row.getD t 0 = y at ci
              have ibl := cell_in ci
              obtain ⟨v0, v1, f0, f1⟩ := VX.out.cells
              have vl := VX.out.lt
              have d1 : decide ((t : Int) < (row.length : Int)) = true := decide_eq_true (by omega)
              have d2 : decide ((t : Int) < 2) = true := decide_eq_true (by omega)
              obtain ⟨n1, n2, n3, n4⟩ := NV.out
              have N3 : Hid (∀ o uu, Pl w (wr.setCell ⟨VB, o, none⟩ uu) w.heap.size u m M) := Lib.hid (fun o uu => PX.out.cell n1 n2 n3 n4)
              clear n1 n2 n3 n4 hi
              have VT : Hid (wr.cell? ⟨VB, t, none⟩ = some (.int .i64 (if t = 0 then x0 else x1)) ∧ wr.frozen? ⟨VB, t, none⟩ = false ∧ ∃ y0 y1, Vv (wr.setCell ⟨VB, t, none⟩ (.int .i64 y)) VB y0 y1) := Lib.hid (by
                rcases (by omega : t = 0 ∨ t = 1) with rfl | rfl
                · exact ⟨by simpa using v0, f0, y, x1, VX.out.set0 y⟩
                · exact ⟨by simpa using v1, f1, x0, y, VX.out.set1 y⟩)
              obtain ⟨vt, ft, y0, y1, VN⟩ := VT.out
              generalize (if t = 0 then x0 else x1) = xt at vt
              have VY := Lib.hid VN
              clear VN v0 v1 f0 f1 VT
              have t2 : (t : Int) < 2 := by omega
              go_wp2
              go_roundw
              case rel => exact ⟨t + 1, y0, y1, by omega, by go_num, VY, Lib.hid (N3.out _ _)⟩
              case measure => simp [intOf]; omega
            · rw [Classical.not_and_iff_not_or_not] at hin
              have RL : Hid (∃ x0 x1 : Int, Vv wr VB x0 x1 ∧ Pl w wr w.heap.size u m M) := Lib.hid ⟨x0, x1, VX.out, PX.out⟩
              clear hi
              go_wp2
              all_goals
                go_meet
                case rel => exact RL.out
      case rest =>
      obtain ⟨x0, x1, VX, PX⟩ := hcut
      obtain ⟨RB, hRB⟩ : ∃ RB, RB = wc.heap.size := ⟨_, rfl⟩
      obtain ⟨W4, hW4⟩ : ∃ W4, W4 = wc.alloc (.cells #[.int .i64 0, .string ⟨#[]⟩, .int .i64 0, .int .i64 0, .int .i64 0] 26) := ⟨_, rfl⟩
      have HW4 : Hid (wc.alloc (.cells #[.int .i64 0, .string ⟨#[]⟩, .int .i64 0, .int .i64 0, .int .i64 0] 26) = W4) := Lib.hid hW4.symm
      have V4 : Hid (Vv W4 VB x0 x1) := Lib.hid (by rw [hW4]; exact VX.on (below_alloc _ _))
      have P4 : Hid (Pl w W4 w.heap.size u m M) := Lib.hid (by rw [hW4]; exact PX.on (below_alloc _ _))
      have L4 : Hid (Lies W4 RB (encQ zq)) := Lib.hid (by rw [hW4, hRB]; exact heap_alloc_new wc _)
      have NR : Hid (RB ≠ w.heap.size ∧ u.ownBlock ≠ some RB ∧ m.ownBlock ≠ some RB ∧ w.heap.size ≤ RB ∧ VB ≠ RB) := Lib.hid (by
        have := PX.q.lt
        have := VX.lt
        exact ⟨by omega, fun e => by have := (PX.q.own.lt _ e).2; omega, fun e => by have := (PX.ap _ e).2.2; omega, by omega, by omega⟩)
      clear hW4 VX PX V2 P2
      obtain ⟨v0, v1, f0, f1⟩ := V4.out.cells
      have vl := V4.out.lt
      go_upto_region 12 with fail
      rw [HW4.out, ← hRB]
      clear HW4 hRB
      go_cut [70] from 29 to 178 (fun c wx => ∃ bb : Bool, c = .bool bb ∧ (bb = true → 0 ≤ x1 ∧ x1 < (l.length : Int)) ∧ wx = W4)
      case first =>
        as_aux_lemma =>
          by_cases p1 : 0 ≤ x1
          · have d1 : decide ((0 : Int) ≤ x1) = true := decide_eq_true p1
            have PH := Lib.hid p1
            go_wp2
            go_meet
            case rel => exact ⟨_, rfl, fun h => ⟨PH.out, of_decide_eq_true h⟩, rfl⟩
          · have d1 : decide ((0 : Int) ≤ x1) = false := decide_eq_false p1
            go_wp2
            go_meet
            case rel => exact ⟨false, rfl, fun h => (by cases h), rfl⟩
      case rest =>
      obtain ⟨bb, rfl, hbb, hwc⟩ := hcut
      replace hwc := hwc.symm
      subst hwc
      have HBB := Lib.hid hbb
      clear hbb
      go_upto_if 70 with fail
      go_cut [9] from 29 to 178 (fun _ wx => ∃ r : Rq, Lies wx RB (encQ r) ∧ Vv wx VB x0 x1 ∧ Pl w wx w.heap.size u m M)
      case first =>
        as_aux_lemma =>
          rcases bb with _ | _
          · go_wp2
            go_meet
            case rel => exact ⟨zq, L4.out, V4.out, P4.out⟩
          · obtain ⟨p1, p2⟩ := HBB.out rfl
            obtain ⟨i, rfl⟩ : ∃ i : Nat, x1 = i := ⟨x1.toNat, by omega⟩
            have hi : i < l.length := by omega
            have hR := HR.out.on P4.out.below
            obtain ⟨lb, loff, rfl⟩ : ∃ bb off, a = some ⟨bb, off, none⟩ := by
              obtain ⟨a', cap', e', hc⟩ := hR
              injection e' with e1 _ _
              rcases hc with hc | ⟨bb, off, ea, _⟩
              · rw [hc] at hi; simp at hi
              · exact ⟨bb, off, by rw [e1, ea]⟩
            have c5 := hR.at hi
            generalize l.getD i zq = y at c5
            have cl := c5.lt
            obtain ⟨k1, k2, k3, k4, k5⟩ := c5
            have RL : Hid (∀ W5, W5 = W4.setRow RB (encQ y).toArray → ∃ r : Rq, Lies W5 RB (encQ r) ∧ Vv W5 VB x0 i ∧ Pl w W5 w.heap.size u m M) := Lib.hid (fun W5 h5 => by
              obtain ⟨n1, n2, n3, n4, n5⟩ := NR.out
              rw [h5]
              exact ⟨y, L4.out.set (encQ y), (setRow_other W4 RB VB _ n5).trans V4.out, P4.out.row n1 n2 n3 n4⟩)
            clear hR p1 HBB
            go_wp2_with (refine ring_store rfl (.tmp 10) (.tmp 75) rfl RB y rfl rfl (encQ zq) rfl L4.out ?_; intro W5 HW5 r5; clear r5)
            go_meet
            case rel => exact RL.out W5 HW5.out
      case rest =>
      obtain ⟨r, LR, VX, PX⟩ := hcut
      obtain ⟨W6, hW6⟩ : ∃ W6, W6 = wc := ⟨_, rfl⟩
      subst hW6
      have L6 := Lib.hid LR
      have P6 := Lib.hid PX
      obtain ⟨v0, v1, _, _⟩ := VX.cells
      have vl := VX.lt
      clear V4 P4 L4 HBB LR PX VX
      clear v1
      go_upto_block 4 with fail
      go_cut [6, 11, 12, 13, 14, 15, 16, 17, 18, 19, 20, 21] from 29 to 178 (fun m2 told _ _ _ _ _ _ _ _ _ _ wx => ∃ (u2 m3 : Value) (M2 : List Rq), m2 = m3 ∧ told = .bool true ∧ Hid (M2.length ≤ k + 1) ∧ Hid (Pl w wx w.heap.size u2 m3 M2))
      case first =>
        have R1 := Lib.hid L6.out.box
        have MLs : Hid (M.length ≤ 1000) := Lib.hid (by have := ML.out; omega)
        have HBw : Hid (w.heap.size ≤ w.heap.size) := Lib.hid (Nat.le_refl _)
        obtain ⟨ma, mc, hmf⟩ := P6.out.r.form
        subst hmf
        go_upto_region 22 with fail
        go_cut [91] from 78 to 178 (fun c wx => c = .bool (x0 == 0) ∧ wx = W6)
        case first =>
          go_wp2
          go_meet
          case rel => exact ⟨rfl, rfl⟩
        case rest =>
        obtain ⟨rfl, hwc⟩ := hcut
        replace hwc := hwc.symm
        subst hwc
        go_upto_if 91 with fail
        go_cut [91] from 78 to 178 (fun c wx => c = .bool (x0 == 0 || x0 == 1 || x0 == 2) ∧ wx = W6)
        case first =>
          rcases h0 : (x0 == 0) with _ | _
          · rcases h1 : (x0 == 1) with _ | _
            · go_wp2
              go_meet
              case rel => exact ⟨by rw [h0, h1]; rfl, rfl⟩
            · go_wp2
              go_meet
              case rel => exact ⟨by rw [h0, h1]; rfl, rfl⟩
          · go_wp2
            go_meet
            case rel => exact ⟨by rw [h0]; rfl, rfl⟩
        case rest =>
        obtain ⟨rfl, hwc⟩ := hcut
        replace hwc := hwc.symm
        subst hwc
        rcases hx : (x0 == 0 || x0 == 1 || x0 == 2) with _ | _
        · as_aux_lemma =>
            rcases h3 : (x0 == 3) with _ | _
            · obtain ⟨r1, r2, r3, r4, r5⟩ := R1.out
              have rl := L6.out.lt
              have KO := Lib.hid (pl_off r P6.out MLs.out)
              have DL : Hid ((drp M r).length ≤ M.length) := Lib.hid (List.length_filter_le _ _)
              rcases hB : hasQ M r with _ | _
              · have e1 : df M r = 5 := by unfold df; rw [hB]; rfl
                have e2 : drp M r = M := drp_none P6.out.rs (hasQ_not.1 hB)
                have KD : Hid (∀ X, Below W6.heap.size W6 X → Calls Tryd.prog 15 #[.pointer (some ⟨w.heap.size, 0, none⟩), agQ r] X fun e w' => e = .returned (.iface 49 (.int .i64 5)) ∧ ∃ v', Hid (Pl w w' w.heap.size v' (.slice ma M.length mc) M)) := Lib.hid (fun X q => by
                  have h0 := P6.out.on q
                  have := pl_drop (m2 := .slice ma M.length mc) r h0 (Nat.le_refl _) MLs.out (by rw [e2]; exact h0.r) h0.ap
                  rw [e1, e2] at this
                  exact this)
                rw [hB] at KO
                clear hB e1 e2
                go_wp2_with fail
                refine KO.out.mono ?_
                rintro e w1 ⟨na, nn, nc, rfl, hb1, RW⟩
                have K1 := Lib.hid (KD.out w1 hb1)
                have R2 := Lib.hid (R1.out.on hb1)
                clear r1 r2 r3 r4 r5 rl hb1
                obtain ⟨r1, r2, r3, r4, r5⟩ := R2.out
                have rl := R2.out.lt
                go_wp2_with fail
                refine K1.out.mono ?_
                rintro e w2 ⟨rfl, u2, P7⟩
                go_wp2_with fail
                refine (pl_err 5 P7.out HG.out).mono ?_
                rintro e w3 ⟨rfl, B3⟩
                go_wp2
                go_meet
                case rel => exact ⟨u2, _, _, rfl, rfl, Lib.hid (by have := ML.out; omega), Lib.hid (P7.out.on B3.out)⟩
              · have e1 : df M r = 0 := by unfold df; rw [hB]; rfl
                have KD : Hid (∀ X m2, Below W6.heap.size W6 X → Rw X m2 (drp M r) → (∀ k, m2.ownBlock = some k → k ≠ w.heap.size ∧ u.ownBlock ≠ some k ∧ k < X.heap.size) → Calls Tryd.prog 15 #[.pointer (some ⟨w.heap.size, 0, none⟩), agQ r] X fun e w' => e = .returned .nilIface ∧ ∃ v', Hid (Pl w w' w.heap.size v' m2 (drp M r))) := Lib.hid (fun X m2 q h1 h2 => by
                  have := pl_drop (m2 := m2) r (P6.out.on q) (Nat.le_refl _) MLs.out h1 h2
                  rw [e1] at this
                  exact this)
                rw [hB] at KO
                clear hB e1
                go_wp2_with fail
                refine KO.out.mono ?_
                rintro e w1 ⟨na, nn, nc, rfl, hb1, RW⟩
                have K1 := Lib.hid (KD.out w1 _ hb1 RW.out.1 RW.out.2)
                have R2 := Lib.hid (R1.out.on hb1)
                clear r1 r2 r3 r4 r5 rl hb1
                obtain ⟨r1, r2, r3, r4, r5⟩ := R2.out
                have rl := R2.out.lt
                go_wp2_with fail
                refine K1.out.mono ?_
                rintro e w2 ⟨rfl, u2, P7⟩
                go_wp2_with fail
                refine (pl_err0 w2).mono ?_
                rintro e w3 ⟨rfl, B3⟩
                go_wp2
                go_meet
                case rel => exact ⟨u2, _, _, rfl, rfl, Lib.hid (by have := ML.out; have := DL.out; omega), Lib.hid (P7.out.on B3.out)⟩
            · have q7 := below_alloc W6 (.cells #[.int .i64 0, .string ⟨#[]⟩, .int .i64 0, .int .i64 0, .int .i64 0] 26)
              have P7 := Lib.hid (P6.out.on q7)
              have L7 : Hid (Lies (W6.alloc (.cells #[.int .i64 0, .string ⟨#[]⟩, .int .i64 0, .int .i64 0, .int .i64 0] 26)) W6.heap.size (encQ zq)) := Lib.hid (heap_alloc_new W6 _)
              have N7 : Hid (W6.heap.size ≠ w.heap.size ∧ u.ownBlock ≠ some W6.heap.size ∧ w.heap.size ≤ W6.heap.size ∧ (Value.slice ma M.length mc).ownBlock ≠ some W6.heap.size) := Lib.hid (by
                have := P6.out.q.lt
                exact ⟨by omega, fun e => by have := (P6.out.q.own.lt _ e).2; omega, by omega, fun e => by have := (P6.out.ap _ e).2.2; omega⟩)
              clear q7
              rcases M with _ | ⟨x, M⟩
              · have KP := Lib.hid (pl_pop_no P7.out (Nat.le_refl _))
                go_wp2_with fail
                refine KP.out.mono ?_
                rintro e w8 ⟨rfl, u2, PK⟩
                have L8 : Hid (Lies w8 W6.heap.size (encQ zq)) := Lib.hid (PK.out.2.lies L7.out N7.out.1 N7.out.2.1)
                have G8 : Hid (∀ X, Below (w8.alloc (.cells #[.int .i64 0, .string ⟨#[]⟩, .int .i64 0, .int .i64 0, .int .i64 0] 26)).heap.size (w8.alloc (.cells #[.int .i64 0, .string ⟨#[]⟩, .int .i64 0, .int .i64 0, .int .i64 0] 26)) X → QBx X w8.heap.size zq ∧ QBx X W6.heap.size zq ∧ Pl w X w.heap.size u2 (.slice ma 0 mc) []) := Lib.hid (fun X q => ⟨(QBx.new w8 zq 26).on q, ((L8.out.on (below_alloc _ _)).on q).box, (PK.out.1.on (below_alloc _ _)).on q⟩)
                have KE := Lib.hid (pl_err 5 (PK.out.1.on (below_alloc w8 (.cells #[.int .i64 0, .string ⟨#[]⟩, .int .i64 0, .int .i64 0, .int .i64 0] 26))) HG.out)
                simp only [zq]
                go_wp2_with fail
                refine KE.out.mono ?_
                rintro e w9 ⟨rfl, B9⟩
                obtain ⟨g9, h9, P9⟩ := G8.out w9 B9.out
                obtain ⟨g1, g2, g3, g4, g5⟩ := g9
                obtain ⟨h1', h2', h3', h4', h5'⟩ := h9
                simp only [zq] at g1 g2 g3 g4 g5 h1' h2' h3' h4' h5'
                have gl := cell_in g1
                have hl' := cell_in h1'
                have HP9 := Lib.hid P9
                clear P9
                go_wp2
                go_meet
                case rel => exact ⟨u2, _, [], rfl, rfl, Lib.hid (by simp), HP9⟩
              · have hRw := P6.out.r
                obtain ⟨mb, moff, hma, hml⟩ : ∃ mb moff, ma = some ⟨mb, moff, none⟩ ∧ (x :: M).length ≤ mc := by
                  rcases hRw.2 with ⟨_, h0⟩ | ⟨b', o', c', e, hc⟩
                  · cases h0
                  · injection e with e1 _ e3
                    exact ⟨b', o', e1, by rw [e3]; exact hc⟩
                subst hma
                have x0c : At5 W6 mb (moff + 0 * 5) x := Rd.at (RowK.rd hRw.1) (i := 0) (by simp)
                simp only [Nat.zero_mul, Nat.add_zero] at x0c
                obtain ⟨y1, y2, y3, y4, y5⟩ := x0c
                have yl := cell_in y1
                have F8 : Hid (∀ W8, W8 = (W6.alloc (.cells #[.int .i64 0, .string ⟨#[]⟩, .int .i64 0, .int .i64 0, .int .i64 0] 26)).setRow W6.heap.size (encQ x).toArray → Pl w W8 w.heap.size u (.slice (some ⟨mb, moff, none⟩) (x :: M).length mc) (x :: M) ∧ Lies W8 W6.heap.size (encQ x)) := Lib.hid (fun W8 h8 => by
                  rw [h8]
                  exact ⟨P7.out.row N7.out.1 N7.out.2.1 N7.out.2.2.2 N7.out.2.2.1, L7.out.set (encQ x)⟩)
                have KP : Hid (∀ W8 m2, W8 = (W6.alloc (.cells #[.int .i64 0, .string ⟨#[]⟩, .int .i64 0, .int .i64 0, .int .i64 0] 26)).setRow W6.heap.size (encQ x).toArray → m2 = .slice (if mc = 1 then some ⟨mb, moff, none⟩ else some ⟨mb, moff + 5, none⟩) M.length (mc - 1) → Calls Tryd.prog 7 #[.pointer (some ⟨w.heap.size, 0, none⟩)] W8 fun e w' => e = .returned (.tuple #[agQ x, .nilIface]) ∧ ∃ v', Hid (Pl w w' w.heap.size v' m2 M ∧ Lies w' W6.heap.size (encQ x))) := Lib.hid (fun W8 m2 h8 hm2 => by
                  obtain ⟨p8, l8⟩ := F8.out W8 h8
                  refine (pl_pop_yes (m2 := m2) p8 (Nat.le_refl _) MLs.out (by rw [hm2]; exact p8.r.tail) (fun k hk => ?_)).mono (fun e w' ⟨he, v', h⟩ => ⟨he, v', Lib.hid ⟨h.out.1, h.out.2.lies l8 N7.out.1 N7.out.2.1⟩⟩)
                  rw [hm2] at hk
                  by_cases hc1 : mc = 1
                  · rw [if_pos hc1] at hk; exact hk
                  · rw [if_neg hc1] at hk; exact hk)
                have G9 : Hid (∀ w9 u2 m2, Pl w w9 w.heap.size u2 m2 M → Lies w9 W6.heap.size (encQ x) → ∀ X, Below (w9.alloc (.cells #[.int .i64 x.1, .string x.2.1, .int .i64 x.2.2.1, .int .i64 x.2.2.2.1, .int .i64 x.2.2.2.2] 26)).heap.size (w9.alloc (.cells #[.int .i64 x.1, .string x.2.1, .int .i64 x.2.2.1, .int .i64 x.2.2.2.1, .int .i64 x.2.2.2.2] 26)) X → QBx X w9.heap.size x ∧ QBx X W6.heap.size x ∧ Pl w X w.heap.size u2 m2 M) := Lib.hid (fun w9 u2 m2 p9 l9 X q => ⟨(QBx.new w9 x 26).on q, ((l9.on (below_alloc _ _)).on q).box, (p9.on (below_alloc _ _)).on q⟩)
                have ML7 : Hid (M.length ≤ k + 1) := Lib.hid (by have := ML.out; simp at this; omega)
                have hml2 : M.length + 1 ≤ mc := by simpa using hml
                clear hRw hml
                by_cases hmc : mc = 1
                · obtain rfl : M = [] := List.eq_nil_of_length_eq_zero (by omega)
                  subst hmc
                  have KP1 : Hid (∀ W8, W8 = (W6.alloc (.cells #[.int .i64 0, .string ⟨#[]⟩, .int .i64 0, .int .i64 0, .int .i64 0] 26)).setRow W6.heap.size (encQ x).toArray → Calls Tryd.prog 7 #[.pointer (some ⟨w.heap.size, 0, none⟩)] W8 fun e w' => e = .returned (.tuple #[agQ x, .nilIface]) ∧ ∃ v', Hid (Pl w w' w.heap.size v' (.slice (some ⟨mb, moff, none⟩) 0 0) [] ∧ Lies w' W6.heap.size (encQ x))) := Lib.hid (fun W8 h8 => KP.out W8 _ h8 rfl)
                  go_wp2_with (refine ring_store rfl (.tmp 16) (.tmp 122) rfl W6.heap.size x rfl rfl (encQ zq) rfl L7.out ?_; intro W8 HW8 r8; clear r8)
                  refine (KP1.out W8 HW8.out).mono ?_
                  rintro e w9 ⟨rfl, u2, PK⟩
                  have G := Lib.hid (G9.out w9 u2 _ PK.out.1 PK.out.2)
                  go_wp2_with fail
                  refine (pl_err0 _).mono ?_
                  rintro e w10 ⟨rfl, B10⟩
                  obtain ⟨g9, h9, P9⟩ := G.out w10 B10.out
                  obtain ⟨g1, g2, g3, g4, g5⟩ := g9
                  obtain ⟨h1', h2', h3', h4', h5'⟩ := h9
                  have gl := cell_in g1
                  have hl' := cell_in h1'
                  have HP9 := Lib.hid P9
                  clear P9
                  go_wp2
                  go_meet
                  case rel => exact ⟨u2, _, [], rfl, rfl, Lib.hid (by simp), HP9⟩
                · have KP1 : Hid (∀ W8, W8 = (W6.alloc (.cells #[.int .i64 0, .string ⟨#[]⟩, .int .i64 0, .int .i64 0, .int .i64 0] 26)).setRow W6.heap.size (encQ x).toArray → Calls Tryd.prog 7 #[.pointer (some ⟨w.heap.size, 0, none⟩)] W8 fun e w' => e = .returned (.tuple #[agQ x, .nilIface]) ∧ ∃ v', Hid (Pl w w' w.heap.size v' (.slice (some ⟨mb, moff + 5, none⟩) M.length (mc - 1)) M ∧ Lies w' W6.heap.size (encQ x))) := Lib.hid (fun W8 h8 => KP.out W8 _ h8 (by rw [if_neg hmc]))
                  go_wp2_with (refine ring_store rfl (.tmp 16) (.tmp 122) rfl W6.heap.size x rfl rfl (encQ zq) rfl L7.out ?_; intro W8 HW8 r8; clear r8)
                  refine (KP1.out W8 HW8.out).mono ?_
                  rintro e w9 ⟨rfl, u2, PK⟩
                  have G := Lib.hid (G9.out w9 u2 _ PK.out.1 PK.out.2)
                  go_wp2_with fail
                  refine (pl_err0 _).mono ?_
                  rintro e w10 ⟨rfl, B10⟩
                  obtain ⟨g9, h9, P9⟩ := G.out w10 B10.out
                  obtain ⟨g1, g2, g3, g4, g5⟩ := g9
                  obtain ⟨h1', h2', h3', h4', h5'⟩ := h9
                  have gl := cell_in g1
                  have hl' := cell_in h1'
                  have HP9 := Lib.hid P9
                  clear P9
                  go_wp2
                  go_meet
                  case rel => exact ⟨u2, _, M, rfl, rfl, ML7, HP9⟩
        · as_aux_lemma =>
            obtain ⟨r1, r2, r3, r4, r5⟩ := R1.out
            have rl := L6.out.lt
            have KT : Hid (∀ X, Calls Tryd.prog 12 #[.int .i64 r.1] X fun e w' => e = .returned (.bool (ist r.1)) ∧ w' = X) := Lib.hid (fun X => refTime_any _ X)
            have KH := Lib.hid (pl_has r P6.out MLs.out)
            rcases hT : ist r.1 with _ | _
            · have e1 : pf M r = 1 := by unfold pf; rw [if_pos hT]
              have KP : Hid (∀ X, Below W6.heap.size W6 X → Calls Tryd.prog 6 #[.pointer (some ⟨w.heap.size, 0, none⟩), agQ r] X fun e w' => e = .returned (.iface 49 (.int .i64 1)) ∧ ∃ v', Hid (Pl w w' w.heap.size v' (.slice ma M.length mc) M)) := Lib.hid (fun X q => by
                have := pl_push_no r (P6.out.on q) (Nat.le_refl _) MLs.out (by rw [e1]; decide)
                rw [e1] at this
                exact this)
              rw [hT] at KT
              clear hT e1
              go_upto_region 26 with (go_at_call 12; refine (KT.out _).mono ?_; rintro e w' ⟨rfl, hw⟩; replace hw := hw.symm; subst hw)
              go_wp2_with fail
              refine KH.out.mono ?_
              rintro e w1 ⟨rfl, hb1⟩
              have K1 := Lib.hid (KP.out w1 hb1)
              have R2 := Lib.hid (R1.out.on hb1)
              clear r1 r2 r3 r4 r5 rl hb1
              obtain ⟨r1, r2, r3, r4, r5⟩ := R2.out
              have rl := R2.out.lt
              go_wp2_with fail
              refine K1.out.mono ?_
              rintro e w2 ⟨rfl, u2, P7⟩
              go_wp2_with fail
              refine (pl_err 1 P7.out HG.out).mono ?_
              rintro e w3 ⟨rfl, B3⟩
              go_wp2
              go_meet
              case rel => exact ⟨u2, _, _, rfl, rfl, Lib.hid (by have := ML.out; omega), Lib.hid (P7.out.on B3.out)⟩
            · rw [hT] at KT
              rcases hB : hasQ M r with _ | _
              · have hF : ¬ (400 : Int) ≤ (M.length : Int) := by have := ML.out; omega
                have e1 : pf M r = 0 := by unfold pf; rw [if_neg (by rw [hT]; decide), if_neg (by rw [hB]; decide), if_neg (by omega)]
                have KA := Lib.hid (fun X (q : Below W6.heap.size W6 X) => pl_add r (P6.out.on q) MLs.out (hasQ_not.1 hB))
                have KP := Lib.hid (fun X m2 (q : Below W6.heap.size W6 X) h1 h2 => pl_push_yes (m2 := m2) r (P6.out.on q) (Nat.le_refl _) MLs.out e1 h1 h2)
                have PL : Hid ((put M r).length = M.length + 1) := Lib.hid (put_len0 P6.out.rs (hasQ_not.1 hB))
                rw [hB] at KH
                clear hT e1 hB
                go_upto_region 26 with (go_at_call 12; refine (KT.out _).mono ?_; rintro e w' ⟨rfl, hw⟩; replace hw := hw.symm; subst hw)
                go_wp2_with fail
                refine KH.out.mono ?_
                rintro e w1 ⟨rfl, hb1⟩
                have K1 := Lib.hid (KA.out w1 hb1)
                have R2 := Lib.hid (R1.out.on hb1)
                have B1 := Lib.hid hb1
                clear r1 r2 r3 r4 r5 rl hb1
                obtain ⟨r1, r2, r3, r4, r5⟩ := R2.out
                have rl := R2.out.lt
                go_wp2_with fail
                refine K1.out.mono ?_
                rintro e w2 ⟨na, nn, nc, rfl, hb2, RW⟩
                have B2 : Hid (Below W6.heap.size W6 w2) := Lib.hid (B1.out.trans (hb2.mono B1.out.size))
                have K2 := Lib.hid (KP.out w2 _ B2.out RW.out.1 RW.out.2)
                have R3 := Lib.hid (R2.out.on hb2)
                clear r1 r2 r3 r4 r5 rl hb2
                obtain ⟨r1, r2, r3, r4, r5⟩ := R3.out
                have rl := R3.out.lt
                go_wp2_with fail
                refine K2.out.mono ?_
                rintro e w3 ⟨rfl, u2, P7⟩
                go_wp2_with fail
                refine (pl_err0 w3).mono ?_
                rintro e w4 ⟨rfl, B4⟩
                go_wp2
                go_meet
                case rel => exact ⟨u2, _, _, rfl, rfl, Lib.hid (by have := ML.out; have := PL.out; omega), Lib.hid (P7.out.on B4.out)⟩
              · have e1 : pf M r = 7 := by unfold pf; rw [if_neg (by rw [hT]; decide), if_pos hB]
                have KP : Hid (∀ X, Below W6.heap.size W6 X → Calls Tryd.prog 6 #[.pointer (some ⟨w.heap.size, 0, none⟩), agQ r] X fun e w' => e = .returned (.iface 49 (.int .i64 7)) ∧ ∃ v', Hid (Pl w w' w.heap.size v' (.slice ma M.length mc) M)) := Lib.hid (fun X q => by
                  have := pl_push_no r (P6.out.on q) (Nat.le_refl _) MLs.out (by rw [e1]; decide)
                  rw [e1] at this
                  exact this)
                rw [hB] at KH
                clear hT e1 hB
                go_upto_region 26 with (go_at_call 12; refine (KT.out _).mono ?_; rintro e w' ⟨rfl, hw⟩; replace hw := hw.symm; subst hw)
                go_wp2_with fail
                refine KH.out.mono ?_
                rintro e w1 ⟨rfl, hb1⟩
                have K1 := Lib.hid (KP.out w1 hb1)
                have R2 := Lib.hid (R1.out.on hb1)
                clear r1 r2 r3 r4 r5 rl hb1
                obtain ⟨r1, r2, r3, r4, r5⟩ := R2.out
                have rl := R2.out.lt
                go_wp2_with fail
                refine K1.out.mono ?_
                rintro e w2 ⟨rfl, u2, P7⟩
                go_wp2_with fail
                refine (pl_err 7 P7.out HG.out).mono ?_
                rintro e w3 ⟨rfl, B3⟩
                go_wp2
                go_meet
                case rel => exact ⟨u2, _, _, rfl, rfl, Lib.hid (by have := ML.out; omega), Lib.hid (P7.out.on B3.out)⟩
      case rest =>
      obtain ⟨u2, m3, M2, hm3, rfl, ML2, P7⟩ := hcut
      replace hm3 := hm3.symm
      subst hm3
      obtain ⟨W7, hW7⟩ : ∃ W7, W7 = wc := ⟨_, rfl⟩
      subst hW7
      clear P6 L6 v0 vl
      obtain ⟨ma, mc, hmf⟩ := P7.out.r.form
      subst hmf
      have M6 : Hid (M2.length ≤ 1000000) := Lib.hid (by have := ML2.out; omega)
      rcases M2 with _ | ⟨x, M2⟩
      · as_aux_lemma =>
          have F8 : Hid (∀ X, Below (W7.alloc (.cells #[.int .i64 0, .string ⟨#[]⟩, .int .i64 0, .int .i64 0, .int .i64 0] 26)).heap.size (W7.alloc (.cells #[.int .i64 0, .string ⟨#[]⟩, .int .i64 0, .int .i64 0, .int .i64 0] 26)) X → Pl w X w.heap.size u2 (.slice ma 0 mc) [] ∧ QBx X W7.heap.size zq) := Lib.hid (fun X q => ⟨(P7.out.on (below_alloc _ _)).on q, (QBx.new W7 zq 26).on q⟩)
          have KPk : Hid (Calls Tryd.prog 16 #[.pointer (some ⟨w.heap.size, 0, none⟩)] (W7.alloc (.cells #[.int .i64 0, .string ⟨#[]⟩, .int .i64 0, .int .i64 0, .int .i64 0] 26)) fun e w' => e = .returned (.tuple #[.agg #[.int .i64 0, .string ⟨#[]⟩, .int .i64 0, .int .i64 0, .int .i64 0], .iface 49 (.int .i64 5)]) ∧ Below (W7.alloc (.cells #[.int .i64 0, .string ⟨#[]⟩, .int .i64 0, .int .i64 0, .int .i64 0] 26)).heap.size (W7.alloc (.cells #[.int .i64 0, .string ⟨#[]⟩, .int .i64 0, .int .i64 0, .int .i64 0] 26)) w') := Lib.hid (peek_any _ w.heap.size u2 [] (P7.out.on (below_alloc _ _)).q (by simp))
          go_wp2_with fail
          refine KPk.out.mono ?_
          rintro e w9 ⟨rfl, hb9⟩
          have B9 := Lib.hid hb9
          clear hb9
          have G9 : Hid (∀ X, Below (w9.alloc (.cells #[.int .i64 0, .string ⟨#[]⟩, .int .i64 0, .int .i64 0, .int .i64 0] 26)).heap.size (w9.alloc (.cells #[.int .i64 0, .string ⟨#[]⟩, .int .i64 0, .int .i64 0, .int .i64 0] 26)) X → Pl w X w.heap.size u2 (.slice ma 0 mc) ([] : List Rq) ∧ QBx X W7.heap.size zq ∧ QBx X w9.heap.size zq) := Lib.hid (fun X q => by
            obtain ⟨p1, p2⟩ := F8.out w9 B9.out
            exact ⟨(p1.on (below_alloc _ _)).on q, (p2.on (below_alloc _ _)).on q, (QBx.new w9 zq 26).on q⟩)
          have KE := Lib.hid (pl_err 5 ((F8.out w9 B9.out).1.on (below_alloc w9 (.cells #[.int .i64 0, .string ⟨#[]⟩, .int .i64 0, .int .i64 0, .int .i64 0] 26))) HG.out)
          go_wp2_with fail
          refine KE.out.mono ?_
          rintro e w10 ⟨rfl, B10⟩
          have KAl := Lib.hid (all_any w10 w.heap.size u2 ([] : List Rq) (G9.out w10 B10.out).1.q M6.out)
          go_wp2_with fail
          refine KAl.out.mono ?_
          rintro e w11 ⟨uu, rfl, hrd, hb11⟩
          have B11 : Hid (Below (w9.alloc (.cells #[.int .i64 0, .string ⟨#[]⟩, .int .i64 0, .int .i64 0, .int .i64 0] 26)).heap.size (w9.alloc (.cells #[.int .i64 0, .string ⟨#[]⟩, .int .i64 0, .int .i64 0, .int .i64 0] 26)) w11) := Lib.hid (B10.out.trans (hb11.mono B10.out.size))
          have KS := Lib.hid (sameRings ([] : List Rq) uu (.slice ma 0 mc) w11 hrd (RowK.rd (G9.out w11 B11.out).1.r.1) (by have := M6.out; omega))
          clear hrd hb11
          go_wp2_with fail
          refine KS.out.mono ?_
          rintro e w12 ⟨rfl, hb12⟩
          have B12 : Hid (Below (w9.alloc (.cells #[.int .i64 0, .string ⟨#[]⟩, .int .i64 0, .int .i64 0, .int .i64 0] 26)).heap.size (w9.alloc (.cells #[.int .i64 0, .string ⟨#[]⟩, .int .i64 0, .int .i64 0, .int .i64 0] 26)) w12) := Lib.hid (B11.out.trans (hb12.mono B11.out.size))
          clear hb12
          obtain ⟨P12, g9, h9⟩ := G9.out w12 B12.out
          obtain ⟨g1, g2, g3, g4, g5⟩ := g9
          obtain ⟨h1', h2', h3', h4', h5'⟩ := h9
          simp only [zq] at g1 g2 g3 g4 g5 h1' h2' h3' h4' h5'
          have gl := cell_in g1
          have hl' := cell_in h1'
          have HP12 := Lib.hid P12
          clear P12
          go_wp2_with fail
          refine (len_any w12 w.heap.size u2 ([] : List Rq) HP12.out.q).mono ?_
          rintro e w13 ⟨rfl, hw13⟩
          replace hw13 := hw13.symm
          subst hw13
          go_wp2
          go_roundw
          case rel => exact ⟨k + 1, u2, _, ([] : List Rq), by omega, by omega, rfl, by go_num, ML2, HP12⟩
          case measure => simp [intOf]; omega
      · as_aux_lemma =>
          have hRw := P7.out.r
          obtain ⟨mb, moff, hma⟩ : ∃ mb moff, ma = some ⟨mb, moff, none⟩ := by
            rcases hRw.2 with ⟨_, h0⟩ | ⟨b', o', c', e, hc⟩
            · cases h0
            · injection e with e1 _ _
              exact ⟨b', o', e1⟩
          subst hma
          have x0c : At5 W7 mb (moff + 0 * 5) x := Rd.at (RowK.rd hRw.1) (i := 0) (by simp)
          simp only [Nat.zero_mul, Nat.add_zero] at x0c
          obtain ⟨y1, y2, y3, y4, y5⟩ := x0c
          have yl := cell_in y1
          have L7 : Hid (Lies (W7.alloc (.cells #[.int .i64 0, .string ⟨#[]⟩, .int .i64 0, .int .i64 0, .int .i64 0] 26)) W7.heap.size (encQ zq)) := Lib.hid (heap_alloc_new W7 _)
          have N7 : Hid (W7.heap.size ≠ w.heap.size ∧ u2.ownBlock ≠ some W7.heap.size ∧ w.heap.size ≤ W7.heap.size ∧ (Value.slice (some ⟨mb, moff, none⟩) (x :: M2).length mc).ownBlock ≠ some W7.heap.size) := Lib.hid (by
            have := P7.out.q.lt
            exact ⟨by omega, fun e => by have := (P7.out.q.own.lt _ e).2; omega, by omega, fun e => by have := (P7.out.ap _ e).2.2; omega⟩)
          have E8 : Hid (∀ W8, W8 = (W7.alloc (.cells #[.int .i64 0, .string ⟨#[]⟩, .int .i64 0, .int .i64 0, .int .i64 0] 26)).setRow W7.heap.size (encQ x).toArray → Pl w W8 w.heap.size u2 (.slice (some ⟨mb, moff, none⟩) (x :: M2).length mc) (x :: M2) ∧ QBx W8 W7.heap.size x) := Lib.hid (fun W8 h8 => by
            rw [h8]
            exact ⟨(P7.out.on (below_alloc _ _)).row N7.out.1 N7.out.2.1 N7.out.2.2.2 N7.out.2.2.1, (L7.out.set (encQ x)).box⟩)
          clear hRw
          go_wp2_with (refine ring_store rfl (.tmp 23) (.tmp 144) rfl W7.heap.size x rfl rfl (encQ zq) rfl L7.out ?_; intro W8 HW8 r8; clear r8)
          have F8 : Hid (∀ X, Below W8.heap.size W8 X → Pl w X w.heap.size u2 (.slice (some ⟨mb, moff, none⟩) (x :: M2).length mc) (x :: M2) ∧ QBx X W7.heap.size x) := Lib.hid (fun X q => by
            obtain ⟨p1, p2⟩ := E8.out W8 HW8.out
            exact ⟨p1.on q, p2.on q⟩)
          have KPk : Hid (Calls Tryd.prog 16 #[.pointer (some ⟨w.heap.size, 0, none⟩)] W8 fun e w' => e = .returned (.tuple #[agQ x, .nilIface]) ∧ Below W8.heap.size W8 w') := Lib.hid ((peek_any W8 w.heap.size u2 (x :: M2) (F8.out W8 (Below.refl _ _)).1.q M6.out).mono (fun e w' ⟨he, hb⟩ => ⟨by rw [he]; simp [hdQ, eQ, fault], hb⟩))
          clear y1 y2 y3 y4 y5 yl
          refine KPk.out.mono ?_
          rintro e w9 ⟨rfl, hb9⟩
          have B9 := Lib.hid hb9
          clear hb9
          have G9 : Hid (∀ X, Below (w9.alloc (.cells #[.int .i64 x.1, .string x.2.1, .int .i64 x.2.2.1, .int .i64 x.2.2.2.1, .int .i64 x.2.2.2.2] 26)).heap.size (w9.alloc (.cells #[.int .i64 x.1, .string x.2.1, .int .i64 x.2.2.1, .int .i64 x.2.2.2.1, .int .i64 x.2.2.2.2] 26)) X → Pl w X w.heap.size u2 (.slice (some ⟨mb, moff, none⟩) (x :: M2).length mc) (x :: M2) ∧ QBx X W7.heap.size x ∧ QBx X w9.heap.size x) := Lib.hid (fun X q => by
            obtain ⟨p1, p2⟩ := F8.out w9 B9.out
            exact ⟨(p1.on (below_alloc _ _)).on q, (p2.on (below_alloc _ _)).on q, (QBx.new w9 x 26).on q⟩)
          have KE := Lib.hid (pl_err0 (w9.alloc (.cells #[.int .i64 x.1, .string x.2.1, .int .i64 x.2.2.1, .int .i64 x.2.2.2.1, .int .i64 x.2.2.2.2] 26)))
          go_wp2_with fail
          refine KE.out.mono ?_
          rintro e w10 ⟨rfl, B10⟩
          have KAl := Lib.hid (all_any w10 w.heap.size u2 (x :: M2) (G9.out w10 B10.out).1.q M6.out)
          go_wp2_with fail
          refine KAl.out.mono ?_
          rintro e w11 ⟨uu, rfl, hrd, hb11⟩
          have B11 : Hid (Below (w9.alloc (.cells #[.int .i64 x.1, .string x.2.1, .int .i64 x.2.2.1, .int .i64 x.2.2.2.1, .int .i64 x.2.2.2.2] 26)).heap.size (w9.alloc (.cells #[.int .i64 x.1, .string x.2.1, .int .i64 x.2.2.1, .int .i64 x.2.2.2.1, .int .i64 x.2.2.2.2] 26)) w11) := Lib.hid (B10.out.trans (hb11.mono B10.out.size))
          have KS := Lib.hid (sameRings (x :: M2) uu (.slice (some ⟨mb, moff, none⟩) (x :: M2).length mc) w11 hrd (RowK.rd (G9.out w11 B11.out).1.r.1) (by have := M6.out; omega))
          clear hrd hb11
          go_wp2_with fail
          refine KS.out.mono ?_
          rintro e w12 ⟨rfl, hb12⟩
          have B12 : Hid (Below (w9.alloc (.cells #[.int .i64 x.1, .string x.2.1, .int .i64 x.2.2.1, .int .i64 x.2.2.2.1, .int .i64 x.2.2.2.2] 26)).heap.size (w9.alloc (.cells #[.int .i64 x.1, .string x.2.1, .int .i64 x.2.2.1, .int .i64 x.2.2.2.1, .int .i64 x.2.2.2.2] 26)) w12) := Lib.hid (B11.out.trans (hb12.mono B11.out.size))
          clear hb12
          obtain ⟨P12, g9, h9⟩ := G9.out w12 B12.out
          obtain ⟨g1, g2, g3, g4, g5⟩ := g9
          obtain ⟨h1', h2', h3', h4', h5'⟩ := h9
          have gl := cell_in g1
          have hl' := cell_in h1'
          have HP12 := Lib.hid P12
          clear P12
          go_wp2_with fail
          refine (len_any w12 w.heap.size u2 (x :: M2) HP12.out.q).mono ?_
          rintro e w13 ⟨rfl, hw13⟩
          replace hw13 := hw13.symm
          subst hw13
          go_wp2
          go_roundw
          case rel => exact ⟨k + 1, u2, _, (x :: M2), by omega, by omega, rfl, by go_num, ML2, HP12⟩
          case measure => simp [intOf]; omega
    · rw [Classical.not_and_iff_not_or_not] at hlt
      have BE := Lib.hid PP.out.below
      go_wp2
      all_goals
        go_ret
        exact ⟨rfl, BE.out⟩
end Go.Proofs.YtkdmdkjkabfiaaaDoor.Qu
