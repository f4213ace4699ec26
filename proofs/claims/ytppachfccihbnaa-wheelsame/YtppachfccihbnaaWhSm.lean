/-
  What is proved here: chimelaw2.WheelSame returns true for every number, every rings and every steps, and keeps all that was there (a contract over the translation).
-/
import Derived.Test.YtppachfccihbnaaWhSame
namespace Go.Proofs.Ytppachfccihbnaa.Qu
open Go.RowKit

theorem ft_S0 {b g : Nat} (h : Ft b S0 g) : g = b := by
  rcases h with h | ⟨k, _, e⟩
  · exact h
  · cases e
theorem wl_new {w w' : World} {now : Int} {e : Ending} (hn : ist now = true) (h : WnA now w e w') : Wl w' w.heap.size S0 now [] := ⟨fun _ => [], h.2.2.2, Iv.new (ist_in hn).1 (ist_in hn).2⟩
/-- The wheel of the fact: one ring is added, and told. -/
theorem one_add (w : World) (b : Nat) (h : Wl w b S0 100 []) : Calls Try.prog 5 #[.pointer (some ⟨b, 0, none⟩), .agg #[.int .i64 200, .string ⟨#[97]⟩, .int .i64 0, .int .i64 0, .int .i64 0]] w fun e w' => e = .returned .nilIface ∧ ∃ S', Hid (Wl w' b S' 100 [f1] ∧ Below b w w') :=
  (wadd_any w b S0 100 [] f1 h).mono (fun e w' ⟨he, S', h1, h2⟩ => by
    rw [f1_add.1] at he
    rw [f1_add.2] at h1
    exact ⟨he, S', Lib.hid ⟨h1, h2.below (Nat.le_of_lt (h.inw (Or.inl rfl)).2) (fun k hk => (h.inw hk).1)⟩⟩)
theorem one_go (w : World) (b : Nat) (S : Nat → Value) (h : Wl w b S 100 [f1]) : Calls Try.prog 6 #[.pointer (some ⟨b, 0, none⟩), .int .i64 200] w fun e w' => ∃ g cap, e = .returned (.tuple #[.slice (some ⟨g, 0, none⟩) 1 cap, .nilIface]) ∧ w'.cell? ⟨g, 0, none⟩ = some (.int .i64 200) ∧ g < w'.heap.size ∧ Hid (Below b w w') :=
  (wgo_yes w b S 100 [f1] 200 h (by decide) (by decide)).mono (fun e w' ⟨u, S', he, h1, h2, h3, h4⟩ => by
    rw [f1_due] at h3
    rcases h3.open with ⟨_, h0⟩ | ⟨g, cap, L, rfl, hb, hL, hnc, hm, hl, ht⟩
    · cases h0
    · have c : At5 w' g (0 + 0 * 5) f1 := Rd.at (M := [f1]) (i := 0) h3.rd (by simp)
      exact ⟨g, cap, he, c.1, hL.lt, Lib.hid (h2.below (Nat.le_of_lt (h.inw (Or.inl rfl)).2) (fun k hk => (h.inw hk).1))⟩)
/-- All is laid: two wheels and a queue, with nothing in them. -/
theorem st_start {w W1 W2 W5 : World} {now : Int} {e1 e2 : Ending} (hn : ist now = true) (h1 : WnA now w e1 W1) (h2 : WnA now W1 e2 W2) (h5 : Below W2.heap.size W2 W5) :
    St w w.heap.size W1.heap.size W5.heap.size S0 S0 (.slice none 0 0) (.slice none 0 0) now now [] [] [] [] (W5.alloc (.cells #[.slice none 0 0] 55)) := by
  have a1 := wl_new hn h1
  have a2 := wl_new hn h2
  have s1 := h1.2.2.1
  have s2 := h2.2.2.1
  have s5 := h5.size
  have q5 := below_alloc W5 (.cells #[.slice none 0 0] 55)
  have ne : ∀ g, Fq W5.heap.size (.slice none 0 0) g → g = W5.heap.size := fun g h => by
    rcases h with h | h
    · exact h
    · cases h
  refine ⟨((a1.onB h2.2.1).onB h5).onB q5, (a2.onB h5).onB q5, qs_new W5, World.ownsRow_nil _ _ _ _, fun g h1 h2 => ?_, fun g h1 h2 => ?_, fun g h1 h2 => ?_, fun g h => (by cases h), Nat.le_refl _, by omega, by omega, ?_⟩
  · have := ft_S0 h1
    have := ft_S0 h2
    omega
  · have := ft_S0 h1
    have := ne g h2
    omega
  · have := ft_S0 h1
    have := ne g h2
    omega
  · have b2 : Below w.heap.size w W2 := h1.2.1.trans (h2.2.1.mono h1.2.1.size)
    have b5 := b2.trans (h5.mono b2.size)
    exact b5.trans (q5.mono b5.size)
set_option maxRecDepth 100000 in
theorem wsame_no (now : Int) (va vb : Value) (w : World) (hn : ist now = false) :
    Calls Try.prog 3 #[.int .i64 now, va, vb] w fun e w' => e = .returned (.bool true) ∧ Below w.heap.size w w' := by
  by_cases h1 : now < 1
  · go_enter Try.func3, Try.ntmps3
    go_wp2_with (go_at_call 4; refine (wnew_no now _ hn).mono ?_; rintro e w' ⟨rfl, hw⟩; replace hw := hw.symm; subst hw)
    go_ret
    exact ⟨rfl, Below.refl _ _⟩
  · have h2 : 150000000 < now := by
      have : ¬ (1 ≤ now ∧ now ≤ 157785119) := of_decide_eq_false hn
      omega
    go_enter Try.func3, Try.ntmps3
    go_wp2_with (go_at_call 4; refine (wnew_no now _ hn).mono ?_; rintro e w' ⟨rfl, hw⟩; replace hw := hw.symm; subst hw)
    go_ret
    exact ⟨rfl, Below.refl _ _⟩
theorem drop_due {D L M : List Rq} (h : D ++ L = M) {k : Nat} (hk : k < D.length) : M.drop k = D.getD k zq :: M.drop (k + 1) := by
  have hM : k < M.length := by rw [← h, List.length_append]; omega
  rw [List.drop_eq_getElem_cons hM]
  congr 1
  subst h
  rw [List.getElem_append_left hk, List.getD_eq_getElem?_getD, List.getElem?_eq_getElem hk]
  rfl
set_option maxHeartbeats 4000000 in
set_option maxRecDepth 100000 in
theorem wsame (now : Int) (a sa : Option Addr) (cap scap : Nat) (l : List Rq) (ks : List Int) (w : World) (hr : Rd w (.slice a l.length cap) l) (hl : l.length ≤ 9223372036854775807) (hs : Ints w (.slice sa ks.length scap) ks) (hk : ks.length ≤ 9223372036854775807) :
    Calls Try.prog 3 #[.int .i64 now, .slice a l.length cap, .slice sa ks.length scap] w fun e w' => e = .returned (.bool true) ∧ Below w.heap.size w w' := by
  rcases hn : ist now with _ | _
  · exact wsame_no now _ _ w hn
  have HR := Lib.hid hr
  have HS := Lib.hid hs
  clear hr hs
  go_enter Try.func3, Try.ntmps3
  go_upto_region 2 with (go_at_call 4; refine (wnew_yes now _ hn).mono ?_; intro e W1 hN1; have N1 := Lib.hid hN1; have hE := hN1.1; clear hN1; subst hE)
  go_upto_region 3 with (go_at_call 4; refine (wnew_yes now _ hn).mono ?_; intro e W2 hN2; have N2 := Lib.hid hN2; have hE := hN2.1; clear hN2; subst hE)
  go_upto_region 6 with (go_at_call 4; refine (wnew_yes 100 _ (by decide)).mono ?_; intro e W3 hN3; have N3 := Lib.hid hN3; have hE := hN3.1; clear hN3; subst hE)
  have K4 := Lib.hid (one_add W3 _ (wl_new (by decide) N3.out))
  go_upto_region 8 with (go_at_call 5; refine K4.out.mono ?_; rintro e W4 ⟨rfl, S4, H4⟩)
  have K5 := Lib.hid (one_go W4 _ S4 H4.out.1)
  go_upto_region 9 with (go_at_call 6; refine K5.out.mono ?_; rintro e W5 ⟨fg, fcap, rfl, fc, fl, B5⟩)
  go_upto_region 12 with (go_at_call 7; refine (new_any _).mono ?_; rintro e w' ⟨rfl, rfl⟩)
  have ST : Hid (St w w.heap.size W1.heap.size W5.heap.size S0 S0 (.slice none 0 0) (.slice none 0 0) now now [] [] [] [] (W5.alloc (.cells #[.slice none 0 0] 55))) := Lib.hid (st_start hn N1.out N2.out ((N3.out.2.1.trans (H4.out.2.mono (Nat.le_refl _))).trans (B5.out.mono (Nat.le_refl _))))
  clear K4 K5 H4 B5 N1 N2 N3 fc fl
  generalize W5.alloc (.cells #[.slice none 0 0] 55) = W6 at ST ⊢
  generalize W5.heap.size = bq at ST ⊢
  generalize W1.heap.size = bb at ST ⊢
  have RD : Hid (∀ k X, k < l.length → Below w.heap.size w X → ∃ b0 off, a = some ⟨b0, off, none⟩ ∧ At5 X b0 (off + k * 5) (l.getD k zq)) := Lib.hid (fun k X hk q => by
    have hR := HR.out.on q
    obtain ⟨a', cap', e', hc⟩ := HR.out.on q
    injection e' with e1 _ _
    rcases hc with hc | ⟨b0, off, ea, _⟩
    · rw [hc] at hk; simp at hk
    · have ea2 : a = some ⟨b0, off, none⟩ := by rw [e1, ea]
      subst ea2
      exact ⟨b0, off, rfl, hR.at hk⟩)
  clear HR
  go_upto_block 0 with fail
  go_cut [6, 16, 17, 18] from 84 to 121 (fun _ _ _ _ wx => ∃ (Sa Sb : Nat → Value) (vq : Value) (M : List Rq), St w w.heap.size bb bq Sa Sb vq (.slice none 0 0) now now M M M [] wx)
  case first =>
    go_wp2_with fail
    go_loopw [16, 17, 18] (fun i _ _ wr => ∃ (k : Nat) (Sa Sb : Nat → Value) (vq : Value) (M : List Rq), k ≤ 60 ∧ k ≤ l.length ∧ i = .int .i64 k ∧ Hid (St w w.heap.size bb bq Sa Sb vq (.slice none 0 0) now now M M M [] wr)) (fun i _ _ _ => 60 - (intOf i).toNat)
    case atStart => exact ⟨0, S0, S0, _, [], by omega, by omega, rfl, ST⟩
    case round =>
      clear ST
      obtain ⟨k, Sa, Sb, vq, M, hk6, hkl, rfl, ST⟩ := hrel
      by_cases hlt : k < l.length ∧ k < 60
      · obtain ⟨h1, h2⟩ := hlt
        obtain ⟨b0, off, rfl, c5⟩ := RD.out k wr h1 ST.out.bel
        have RX : Hid (∀ X, Below w.heap.size w X → At5 X b0 (off + k * 5) (l.getD k zq)) := Lib.hid (fun X q => by
          obtain ⟨b0', off', e, c⟩ := RD.out k X h1 q
          injection e with e
          injection e with e1 e2
          subst e1; subst e2
          exact c)
        generalize l.getD k zq = r at c5 RX
        have cl := c5.lt
        obtain ⟨k1, k2, k3, k4, k5⟩ := c5
        have d1 : decide ((k : Int) < (l.length : Int)) = true := decide_eq_true (by omega)
        have d2 : decide ((k : Int) < 60) = true := decide_eq_true (by omega)
        have MR : Hid (Rs M ∧ M.length ≤ 400) := Lib.hid ⟨ST.out.a.rs, ST.out.a.len⟩
        by_cases hf : waf now M r = 0
        · have HF := Lib.hid hf
          clear hf
          go_upto_region 16 with (go_at_call 5; refine (st_addA_yes ST.out r HF.out).mono ?_; rintro e w1 ⟨rfl, Sa1, hs1⟩; have ST1 := Lib.hid hs1; clear hs1)
          clear k1 k2 k3 k4 k5 cl
          have c5 := RX.out w1 ST1.out.bel
          have cl := c5.lt
          obtain ⟨k1, k2, k3, k4, k5⟩ := c5
          go_upto_region 17 with (go_at_call 5; refine (st_addB_yes ST1.out r HF.out).mono ?_; rintro e w2 ⟨rfl, Sb2, hs2⟩; have ST2 := Lib.hid hs2; clear hs2)
          go_quiet (fail)
          have ST3 := Lib.hid (ST2.out.onB (below_drewN (Below.refl _ w2) nq))
          generalize w2.drewN nq = w3 at ST3 ⊢
          clear k1 k2 k3 k4 k5 cl ST1 ST2
          have c5 := RX.out w3 ST3.out.bel
          have cl := c5.lt
          obtain ⟨k1, k2, k3, k4, k5⟩ := c5
          go_wp2_with (go_at_call 8; refine (st_push ST3.out MR.out.1 MR.out.2 r (waf_pf HF.out)).mono ?_; rintro e w4 ⟨rfl, vq4, hs4⟩; have ST4 := Lib.hid hs4; clear hs4)
          go_roundw
          case rel => exact ⟨k + 1, _, _, _, _, by omega, by omega, by go_num, ST4⟩
          case measure => simp [intOf]; omega
        · have HF := Lib.hid hf
          clear hf
          go_upto_region 16 with (go_at_call 5; refine (st_addA_no ST.out r HF.out).mono ?_; rintro e w1 ⟨rfl, Sa1, hs1⟩; have ST1 := Lib.hid hs1; clear hs1)
          clear k1 k2 k3 k4 k5 cl
          have c5 := RX.out w1 ST1.out.bel
          have cl := c5.lt
          obtain ⟨k1, k2, k3, k4, k5⟩ := c5
          go_upto_region 17 with (go_at_call 5; refine (st_addB_no ST1.out r HF.out).mono ?_; rintro e w2 ⟨rfl, Sb2, hs2⟩; have ST2 := Lib.hid hs2; clear hs2)
          go_quiet (fail)
          have ST3 := Lib.hid (ST2.out.onB (below_drewN (Below.refl _ w2) nq))
          generalize w2.drewN nq = w3 at ST3 ⊢
          clear k1 k2 k3 k4 k5 cl ST1 ST2
          go_wp2
          go_roundw
          case rel => exact ⟨k + 1, _, _, _, _, by omega, by omega, by go_num, ST3⟩
          case measure => simp [intOf]; omega
      · rw [Classical.not_and_iff_not_or_not] at hlt
        go_wp2
        all_goals
          go_meet
          exact ⟨Sa, Sb, vq, M, ST.out⟩
  case rest =>
    clear ST RD
    obtain ⟨Sa, Sb, vq, M, hst⟩ := hcut
    have RM : Hid (Rs M ∧ M.length ≤ 400) := Lib.hid ⟨hst.a.rs, hst.a.len⟩
    have ST0 : Hid (St w w.heap.size bb bq Sa Sb vq (.slice none 0 0) now now (laterQ M now) M M (dueQ M now) wc) := Lib.hid (by
      obtain ⟨e1, e2⟩ := due_none hst.a.above
      rw [e1, e2]
      exact hst)
    clear hst
    have RS : Hid (∀ k X, k < ks.length → Below w.heap.size w X → ∃ b0 off, sa = some ⟨b0, off, none⟩ ∧ X.cell? ⟨b0, off + k, none⟩ = some (.int .i64 (ks.getD k 0))) := Lib.hid (fun k X hk q => by
      obtain ⟨a', cap', e', hc⟩ := HS.out.on q
      injection e' with e1 _ _
      rcases hc with hc | ⟨b0, off, ea, h⟩
      · rw [hc] at hk; simp at hk
      · exact ⟨b0, off, by rw [e1, ea], h k hk⟩)
    clear HS
    go_upto_block 2 with fail
    go_cut [19, 20, 21, 22, 23] from 123 to 166 (fun got at_ _ _ _ wx => ∃ (Sa : Nat → Value) (gv : Value) (t : Int), got = gv ∧ at_ = .int .i64 t ∧ now ≤ t ∧ ist t = true ∧ St w w.heap.size bb bq Sa Sb vq gv t now (laterQ M t) M M (dueQ M t) wx)
    case first =>
      go_wp2_with fail
      go_loopw [19, 20, 21, 22, 23] (fun got at_ i _ _ wr => ∃ (k : Nat) (Sa : Nat → Value) (gv : Value) (t : Int), k ≤ 40 ∧ k ≤ ks.length ∧ i = .int .i64 k ∧ got = gv ∧ at_ = .int .i64 t ∧ now ≤ t ∧ ist t = true ∧ Hid (St w w.heap.size bb bq Sa Sb vq gv t now (laterQ M t) M M (dueQ M t) wr)) (fun _ _ i _ _ _ => 40 - (intOf i).toNat)
      case atStart => exact ⟨0, Sa, _, now, by omega, by omega, rfl, rfl, rfl, Int.le_refl _, hn, ST0⟩
      case round =>
        clear ST0
        obtain ⟨k, Sa, gv, t, hk4, hkl, rfl, hgv, rfl, hnt, hit, ST⟩ := hrel
        replace hgv := hgv.symm
        subst hgv
        obtain ⟨t1, t2⟩ := ist_in hit
        by_cases hlt : k < ks.length ∧ k < 40
        · obtain ⟨h1, h2⟩ := hlt
          obtain ⟨b0, off, rfl, c0⟩ := RS.out k wr h1 ST.out.bel
          have RX : Hid (∀ X, Below w.heap.size w X → X.cell? ⟨b0, off + k, none⟩ = some (.int .i64 (ks.getD k 0))) := Lib.hid (fun X q => by
            obtain ⟨b0', off', e, c⟩ := RS.out k X h1 q
            injection e with e
            injection e with e1 e2
            subst e1; subst e2
            exact c)
          generalize ks.getD k 0 = x at c0 RX
          have cl := cell_in c0
          have d1 : decide ((k : Int) < (ks.length : Int)) = true := decide_eq_true (by omega)
          have d2 : decide ((k : Int) < 40) = true := decide_eq_true (by omega)
          by_cases hx0 : x < 0
          · go_wp2
            go_roundw
            case rel => exact ⟨k + 1, Sa, _, t, by omega, by omega, by go_num, rfl, rfl, hnt, hit, ST⟩
            case measure => simp [intOf]; omega
          by_cases hx1 : 1000000 < x
          · go_wp2
            go_roundw
            case rel => exact ⟨k + 1, Sa, _, t, by omega, by omega, by go_num, rfl, rfl, hnt, hit, ST⟩
            case measure => simp [intOf]; omega
          rcases hT : ist (t + x) with _ | _
          · have HF : Hid (¬ wgf t (t + x) = 0) := Lib.hid (by unfold wgf; rw [if_pos hT]; decide)
            go_wp2_with (go_at_call 6; refine (st_goA_no ST.out (t + x) HF.out).mono ?_; rintro e w1 ⟨rfl, hs1⟩; have ST1 := Lib.hid hs1; clear hs1)
            go_roundw
            case rel => exact ⟨k + 1, Sa, _, t, by omega, by omega, by go_num, rfl, rfl, hnt, hit, ST1⟩
            case measure => simp [intOf]; omega
          · have GL : Hid ((dueQ M t).length ≤ 1000) := Lib.hid (by have := due_later M t; have := RM.out.2; omega)
            have K1 := Lib.hid (st_goA_yes ST.out (t + x) hT (by omega) GL.out)
            go_upto_region 29 with (go_at_call 6; refine K1.out.mono ?_; rintro e w1 ⟨u, rfl, B1, Sa1, v1, w3, AP, ST3⟩)
            have c1 := RX.out w1 B1.out
            clear c0 cl K1
            have cl := cell_in c1
            have ST4 : Hid (St w w.heap.size bb bq Sa1 Sb vq v1 (t + x) now (laterQ M (t + x)) M M (dueQ M (t + x)) w3) := Lib.hid (by
              have := ST3.out
              rw [later_later (by omega), due_due RM.out.1 (by omega)] at this
              exact this)
            go_wp2_with (at_builtin; refine wpl_app _ rfl _ _ _ _ rfl _ _ rfl rfl (AP.out _) ?_)
            go_roundw
            case rel => exact ⟨k + 1, Sa1, v1, t + x, by omega, by omega, by go_num, rfl, by go_num, by omega, hT, ST4⟩
            case measure => simp [intOf]; omega
        · rw [Classical.not_and_iff_not_or_not] at hlt
          go_wp2
          all_goals
            go_meet
            exact ⟨Sa, _, t, rfl, rfl, hnt, hit, ST.out⟩
    case rest =>
      clear ST0 RS
      obtain ⟨Sa2, gv, t, hgv, rfl, hnt, hit, hst⟩ := hcut
      replace hgv := hgv.symm
      subst hgv
      have K1 := Lib.hid (st_goB_yes hst t hit hnt)
      have DL : Hid ((dueQ M t).length ≤ 400) := Lib.hid (by have := due_later M t; have := RM.out.2; omega)
      have DM : Hid (dueQ M t ++ laterQ M t = M) := Lib.hid (due_split RM.out.1 t)
      clear hst
      go_upto_region 32 with (go_at_call 6; refine K1.out.mono ?_; rintro e w1 ⟨u, Sb2, rfl, H1⟩)
      have K2 := Lib.hid (sameRings (dueQ M t) _ _ w1 H1.out.1 H1.out.2.1 (by have := DL.out; omega))
      have ST1 := Lib.hid H1.out.2.2
      obtain ⟨ua, uc, rfl, _⟩ := H1.out.2.1
      clear K1 H1
      generalize dueQ M t = D at *
      generalize laterQ M t = LT at *
      go_upto_region 35 with (go_at_call 9; refine K2.out.mono ?_; rintro e w2 ⟨rfl, hb2⟩; have ST2 := Lib.hid (ST1.out.onB hb2); clear hb2)
      clear K2 ST1
      go_wp2_with fail
      go_loopw [27, 28, 29] (fun i _ _ wr => ∃ (k : Nat) (vq : Value), k ≤ D.length ∧ i = .int .i64 k ∧ Hid (St w w.heap.size bb bq Sa2 Sb2 vq (.slice ua D.length uc) t t LT LT (M.drop k) D wr)) (fun i _ _ _ => D.length - (intOf i).toNat)
      case atStart => exact ⟨0, vq, by omega, rfl, ST2⟩
      case round =>
        clear ST2
        obtain ⟨k, vq, hkD, rfl, ST⟩ := hrel
        by_cases hlt : k < D.length
        · have ST1 : Hid (St w w.heap.size bb bq Sa2 Sb2 vq (.slice ua D.length uc) t t LT LT (D.getD k zq :: M.drop (k + 1)) D wr) := Lib.hid (by
            have := ST.out
            rwa [drop_due DM.out hlt] at this)
          have LL : Hid ((D.getD k zq :: M.drop (k + 1)).length ≤ 400) := Lib.hid (by rw [← drop_due DM.out hlt]; have := RM.out.2; simp; omega)
          have RX : Hid (∀ X, Rd X (.slice ua D.length uc) D → ∃ b0 off, ua = some ⟨b0, off, none⟩ ∧ At5 X b0 (off + k * 5) (D.getD k zq)) := Lib.hid (fun X hR => by
            obtain ⟨a', cap', e', hc⟩ := id hR
            injection e' with e1 _ _
            rcases hc with hc | ⟨b0, off, ea, _⟩
            · rw [hc] at hlt; simp at hlt
            · have ea2 : ua = some ⟨b0, off, none⟩ := by rw [e1, ea]
              subst ea2
              exact ⟨b0, off, rfl, hR.at hlt⟩)
          generalize D.getD k zq = x at ST1 LL RX
          have HE : ∀ W : World, (binOp .neq 31 (agQ x) (agQ x)).run Try.prog W = .ok (.bool false) W := fun W => by rw [ring_neq_run, eqQ_iff.2 rfl]; rfl
          have d1 : decide ((k : Int) < (D.length : Int)) = true := decide_eq_true (by omega)
          have K1 := Lib.hid (st_pop ST1.out LL.out)
          have dl4 := DL.out
          clear ST ST1 LL
          go_upto_region 39 with (go_at_call 10; refine K1.out.mono ?_; rintro e w2 ⟨rfl, vq2, hs2⟩; have ST2 := Lib.hid hs2; clear hs2)
          have ST3 := Lib.hid (ST2.out.onB (below_alloc w2 (.cells #[.int .i64 x.1, .string x.2.1, .int .i64 x.2.2.1, .int .i64 x.2.2.2.1, .int .i64 x.2.2.2.2] 31)))
          obtain ⟨b0, off, rfl, c5⟩ := RX.out _ ST3.out.g.rd
          have x0 : QBx (w2.alloc (.cells #[.int .i64 x.1, .string x.2.1, .int .i64 x.2.2.1, .int .i64 x.2.2.2.1, .int .i64 x.2.2.2.2] 31)) w2.heap.size x := QBx.new w2 x _
          clear RX K1 ST2
          generalize hW3 : w2.alloc (.cells #[.int .i64 x.1, .string x.2.1, .int .i64 x.2.2.1, .int .i64 x.2.2.2.1, .int .i64 x.2.2.2.2] 31) = W3 at *
          generalize hXB : w2.heap.size = XB at *
          clear hW3 hXB
          have cl := c5.lt
          have cl2 := x0.lt
          obtain ⟨k1, k2, k3, k4, k5⟩ := c5
          obtain ⟨r1, r2, r3, r4, r5⟩ := x0
          go_quiet (fail)
          have ST4 := Lib.hid (ST3.out.onB (below_drewN (Below.refl _ W3) nq))
          clear k1 k2 k3 k4 k5 r1 r2 r3 r4 r5 cl cl2 HE ST3
          go_wp2
          go_roundw
          case rel => exact ⟨k + 1, vq2, by omega, by go_num, ST4⟩
          case measure => simp [intOf]; omega
        · obtain rfl : k = D.length := by omega
          have d1 : decide ((D.length : Int) < (D.length : Int)) = false := decide_eq_false (by omega)
          have ML : Hid ((M.drop D.length).length = LT.length) := Lib.hid (by rw [← DM.out]; simp)
          have KA : Hid (Calls Try.prog 11 #[.pointer (some ⟨w.heap.size, 0, none⟩)] wr fun e w' => e = .returned (.int .i64 (LT.length : Int)) ∧ w' = wr) := Lib.hid (by
            obtain ⟨R, hm, _⟩ := ST.out.a
            exact wlen_any wr _ _ _ _ hm.box)
          have KB : Hid (Calls Try.prog 11 #[.pointer (some ⟨bb, 0, none⟩)] wr fun e w' => e = .returned (.int .i64 (LT.length : Int)) ∧ w' = wr) := Lib.hid (by
            obtain ⟨R, hm, _⟩ := ST.out.b
            exact wlen_any wr _ _ _ _ hm.box)
          have KQ : Hid (Calls Try.prog 12 #[.pointer (some ⟨bq, 0, none⟩)] wr fun e w' => e = .returned (.int .i64 (LT.length : Int)) ∧ w' = wr) := Lib.hid (by
            have := len_any wr bq _ _ ST.out.q
            rw [ML.out] at this
            exact this)
          go_wp2_with (first
            | (go_at_call 11; refine KA.out.mono ?_; rintro e w' ⟨rfl, hw⟩; replace hw := hw.symm; subst hw)
            | (go_at_call 11; refine KB.out.mono ?_; rintro e w' ⟨rfl, hw⟩; replace hw := hw.symm; subst hw)
            | (go_at_call 12; refine KQ.out.mono ?_; rintro e w' ⟨rfl, hw⟩; replace hw := hw.symm; subst hw))
          go_ret
          exact ⟨rfl, ST.out.bel⟩
end Go.Proofs.Ytppachfccihbnaa.Qu
