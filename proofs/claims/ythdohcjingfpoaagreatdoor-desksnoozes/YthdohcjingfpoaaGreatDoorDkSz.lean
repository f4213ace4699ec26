/-
  What is proved here: law chimelaw3.DeskSnoozes answers true (a contract over the translation).
-/
import Derived.Test.YthdohcjingfpoaaGreatDoorKH
import Derived.Test.YthdohcjingfpoaaGreatDoorBL
import Derived.Test.YthdohcjingfpoaaGreatDoorQB
namespace Go.Proofs.YthdohcjingfpoaaGreatDoor.Dk
open Go.RowKit Qu Go.Maps Zo

theorem at5_of {W W' : World} {g o : Nat} {x : Rq} (h : At5 W g o x) (e : W'.heap[g]? = W.heap[g]?) : At5 W' g o x := by
  obtain ⟨a0, a1, a2, a3, a4⟩ := h
  exact ⟨(World.cell?_of_block (a := ⟨g, o, none⟩) e).trans a0, (World.cell?_of_block (a := ⟨g, o + 1, none⟩) e).trans a1, (World.cell?_of_block (a := ⟨g, o + 2, none⟩) e).trans a2, (World.cell?_of_block (a := ⟨g, o + 3, none⟩) e).trans a3, (World.cell?_of_block (a := ⟨g, o + 4, none⟩) e).trans a4⟩
theorem qbx_of {W W' : World} {g : Nat} {x : Rq} (h : QBx W g x) (e : W'.heap[g]? = W.heap[g]?) : QBx W' g x := by
  obtain ⟨a0, a1, a2, a3, a4⟩ := h
  exact ⟨(World.cell?_of_block (a := ⟨g, 0, none⟩) e).trans a0, (World.cell?_of_block (a := ⟨g, 1, none⟩) e).trans a1, (World.cell?_of_block (a := ⟨g, 2, none⟩) e).trans a2, (World.cell?_of_block (a := ⟨g, 3, none⟩) e).trans a3, (World.cell?_of_block (a := ⟨g, 4, none⟩) e).trans a4⟩
/-- A ring of a row. -/
theorem own_at {w : World} {a : Option Addr} {n c n0 : Nat} {L : List Rq} (h : Ow w n0 (.slice a n c) L) {k : Nat} (hk : k < L.length) : ∃ g, a = some ⟨g, 0, none⟩ ∧ At5 w g (k * 5) (L.getD k zq) := by
  rcases h.open with ⟨_, e2⟩ | ⟨g, cap, L', e, _⟩
  · rw [e2] at hk; simp at hk
  · injection e with e1 e2 e3
    subst e1 e2 e3
    have := Rd.at h.rd hk
    rw [Nat.zero_add] at this
    exact ⟨g, rfl, this⟩
theorem own_most {w : World} {n0 : Nat} {v : Value} {L : List Rq} (h : Ow w n0 v L) : L.length ≤ 9223372036854775807 := by
  rcases h.open with ⟨_, e2⟩ | ⟨g, cap, L', _, _, _, h1, h2, _⟩
  · rw [e2]; exact Nat.zero_le _
  · exact Nat.le_trans h1 h2
theorem own_first {w : World} {a : Option Addr} {n c n0 : Nat} {x : Rq} (h : Ow w n0 (.slice a n c) [x]) : ∃ g, a = some ⟨g, 0, none⟩ ∧ QBx w g x := by
  obtain ⟨g, e, q⟩ := own_at h (k := 0) (Nat.zero_lt_one)
  exact ⟨g, e, q⟩
set_option maxRecDepth 100000 in
set_option maxHeartbeats 8000000 in
theorem dsnoozes (v : Evt) (s : Evs) (nw t mi pk : Int) (w : World) (hv : EvB w v s) (hT : Tab w) (hE : ErrTy w) :
    Calls Tryz.prog 4 #[.agg (ecells v s), .int .i64 nw, .int .i64 t, .int .i64 mi, .int .i64 pk] w fun x w' => x = .returned (.bool true) ∧ Below w.heap.size w w' := by
  obtain ⟨W1, hW1⟩ : ∃ W1, W1 = w.alloc (.cells (ecells v s) 40) := ⟨_, rfl⟩
  have b1 : Below w.heap.size w W1 := by rw [hW1]; exact below_alloc _ _
  have x1 : EBox W1 w.heap.size v s := by rw [hW1]; exact EBox.new w v s _
  have HX : Hid (∀ X, Below W1.heap.size W1 X → EBox X w.heap.size v s ∧ ErrTy X ∧ Below w.heap.size w X) := Lib.hid (fun X q => ⟨x1.on q, (hE.below b1).below q, b1.trans (q.mono b1.size)⟩)
  have HT := Lib.hid (hT.below b1)
  have HV := Lib.hid (hv.on b1)
  have K1 := Lib.hid (wd_new (W1 := W1) (W := W1) (K := fun _ => False) 0 [] (.agg #[.int .i64 0, .slice none 0 0]) ⟨_, rfl, nil_nth _⟩ (Nat.zero_le _) rfl (Below.refl _ _) (fun _ h => h.elim))
  have HW := Lib.hid hW1
  clear b1 x1 hv hT hE hW1
  go_enter Tryz.func4, Tryz.ntmps4
  go_upto_region 1 with fail
  rw [← HW.out]
  clear HW
  go_wp2_with fail
  refine K1.out.mono ?_
  rintro x w2 ⟨b, rfl, h2, _⟩
  have H2 := Lib.hid h2
  clear K1 h2
  go_wp2_with fail
  refine (wd_done zq H2.out (Gd.new rfl) HT.out).mono ?_
  rintro x w3 ⟨a3, c3, rfl, _, h3, _⟩
  rw [show (newD 0 []).don zq = newD 0 [] from rfl] at h3
  rw [show fault (donF (newD 0 []).rung zq) = .iface 86 (.int .i64 5) from rfl]
  have H3 := Lib.hid (h3.imp (K' := fun _ => False) (fun _ h => h.elim))
  clear H2 h3
  go_wp2_with fail
  refine (error_errno 5 5 w3 (HX.out w3 H3.out.below).2.1).mono ?_
  rintro x w4 ⟨rfl, hb4⟩
  have H4 := Lib.hid (H3.out.onB (K' := fun _ => False) hb4 (fun _ h => h.elim))
  clear H3 hb4
  have zb : w.heap.size < w4.heap.size := (HX.out w4 H4.out.below).1.lt
  go_wp2_with (refine ev_load ?h1 (.tmp 5) ?h2 w.heap.size v s ?h3 (HX.out w4 H4.out.below).1 ?h4; (case h1 => rfl); (case h2 => rfl); (case h3 => rfl))
  refine (wd_put v s H4.out (Gd.new rfl) HT.out HV.out).mono ?_
  rintro x w5 ⟨a5, c5, rfl, _, h5, _⟩
  have H5 := Lib.hid (h5.imp (K' := fun _ => False) (fun _ h => h.elim))
  have G5 : Hid (Gd ((newD 0 []).put v)) := Lib.hid ((Gd.new rfl).put v)
  clear H4 h5 zb
  go_wp2_with fail
  refine (wd_tick nw H5.out G5.out HT.out).mono ?_
  rintro x w6 ⟨a6, c6, rfl, _, h6, _⟩
  have H6 := Lib.hid (h6.imp (K' := fun _ => False) (fun _ h => h.elim))
  have G6 := Lib.hid (G5.out.tick nw)
  clear H5 h6
  go_wp2_with fail
  refine (wd_tick t H6.out G6.out HT.out).mono ?_
  rintro x w7 ⟨a7, c7, rfl, o7, h7, _⟩
  have H7 := Lib.hid h7
  have O7 := Lib.hid o7
  have G7 := Lib.hid (G6.out.tick t)
  clear H6 h7 o7
  have SZ := Lib.hid (fun h1 h2 h3 => sz_of (v := v) (nw := nw) (t := t) h1 h2 h3)
  have TRUE : Hid (∀ X, Below W1.heap.size W1 X → Below w.heap.size w X) := Lib.hid (fun X q => (HX.out X q).2.2)
  have B7 := Lib.hid (TRUE.out w7 H7.out.below)
  generalize putF (newD 0 []) v = f1 at SZ ⊢
  generalize ticF ((newD 0 []).put v) nw = f2 at SZ ⊢
  generalize ticF (((newD 0 []).put v).tick nw) t = f3 at SZ ⊢
  generalize ticL (((newD 0 []).put v).tick nw) t = L at SZ O7 H7 ⊢
  generalize (((newD 0 []).put v).tick nw).tick t = D at SZ H7 G7 ⊢
  clear G5 G6
  go_upto_region 11 with fail
  rcases (by omega : ¬ f1 = 0 ∨ (f1 = 0 ∧ ¬ f2 = 0) ∨ (f1 = 0 ∧ f2 = 0 ∧ ¬ f3 = 0) ∨ (f1 = 0 ∧ f2 = 0 ∧ f3 = 0)) with q | ⟨q1, q2⟩ | ⟨q1, q2, q3⟩ | ⟨q1, q2, q3⟩
  · rw [efault_ne q]
    clear H7 O7 SZ G7 HX
    go_wp2
    go_ret
    exact ⟨rfl, B7.out⟩
  · rw [q1, efault_0, efault_ne q2]
    clear H7 O7 SZ G7 HX
    go_wp2
    go_ret
    exact ⟨rfl, B7.out⟩
  · rw [q1, q2, efault_0, efault_ne q3]
    clear H7 O7 SZ G7 HX
    go_wp2
    go_ret
    exact ⟨rfl, B7.out⟩
  rw [q1, q2, q3, efault_0]
  have S0 := Lib.hid (SZ.out q1 q2 q3)
  clear SZ q1 q2 q3
  by_cases p1 : pk < 0
  · clear H7 O7 G7 HX S0
    go_wp2
    go_ret
    exact ⟨rfl, B7.out⟩
  obtain ⟨k, rfl⟩ := Int.eq_ofNat_of_zero_le (by omega : 0 ≤ pk)
  by_cases p2 : L.length ≤ k
  · have p3 : (L.length : Int) ≤ (k : Int) := by omega
    generalize L.length = ll at p3 ⊢
    clear H7 O7 G7 HX S0
    go_wp2
    go_ret
    exact ⟨rfl, B7.out⟩
  have p3 : ¬ (L.length : Int) ≤ (k : Int) := by omega
  have hkl : k < L.length := by omega
  have hki : (k : Int) < (L.length : Int) := by omega
  obtain ⟨g7, rfl, at7⟩ := own_at O7.out hkl
  have hmem : L.getD k zq ∈ L := by rw [List.getD_eq_getElem?_getD, List.getElem?_eq_getElem hkl]; exact List.getElem_mem hkl
  generalize L.getD k zq = r at at7 hmem
  have HM := Lib.hid hmem
  have ll : L.length ≤ 400 := by rw [← S0.out.rung]; exact S0.out.gd.nr
  obtain ⟨y0, y1, y2, y3, y4⟩ := at7
  have gl7 := cell_in y0
  obtain ⟨gr, hgr⟩ : ∃ gr, gr = w7.heap.size := ⟨_, rfl⟩
  have HGR := Lib.hid hgr
  clear O7 hmem hgr
  go_upto_region 14 with (refine ring_store rfl (.tmp 22) (.tmp 91) rfl w7.heap.size r rfl rfl zr5 rfl (heap_alloc_new w7 _) ?_; intro W8 HW8 r8; have R8 := Lib.hid r8; have T8 := Lib.hid (turned1 HW8.out).1)
  clear HW8 r8 y0 y1 y2 y3 y4 gl7
  rw [← HGR.out] at R8 ⊢
  have H8 := Lib.hid (H7.out.onB (K' := fun k => k = gr) T8.out (fun k hk => Or.inr ⟨by rw [hk, HGR.out]; exact Nat.le_refl _, by rw [hk]; exact R8.out.lt⟩))
  clear H7 T8
  obtain ⟨y0, y1, y2, y3, y4⟩ := R8.out
  have gl8 := cell_in y0
  go_wp2_with fail
  refine (wd_snooze r mi H8.out S0.out.gd HT.out).mono ?_
  rintro x w9 ⟨a9, c9, rfl, _, h9, k9⟩
  have R9 := Lib.hid (qbx_of R8.out (k9 gr rfl))
  have H9 := Lib.hid (h9.imp (K' := fun k => k = gr) (fun _ h => Or.inl h))
  have G9 : Hid (Gd (D.snooze r mi)) := Lib.hid (S0.out.gd.snooze r mi)
  clear H8 h9 k9 y0 y1 y2 y3 y4 gl8 R8 B7
  have B9 := Lib.hid (TRUE.out w9 H9.out.below)
  by_cases f5 : snzF D r mi = 0
  case neg =>
    rw [efault_ne f5]
    have hb := sz_bad S0.out HM.out f5
    generalize snzF D r mi = F at f5 ⊢
    clear H9 G9 R9 S0 HM HX G7
    rcases hb with q | ⟨q, q2⟩ | ⟨q, q2, q3⟩
    · go_wp2
      go_ret
      exact ⟨rfl, B9.out⟩
    · go_wp2
      go_ret
      exact ⟨rfl, B9.out⟩
    · go_wp2
      go_ret
      exact ⟨ret_bool (by first | rfl | simp | simpa using q3), B9.out⟩
  rw [f5, efault_0]
  obtain ⟨e5, m1, m2⟩ := sz_good S0.out f5
  have es : (D.snooze r mi).snz = [(t + mi, r.2)] := by rw [e5]
  have er : (D.snooze r mi).rung = drp L r := by rw [e5]
  have hlr : ((drp L r).length : Int) = (L.length : Int) - 1 := by
    have := drp_len (r := r) (by rw [← S0.out.rung]; exact S0.out.gd.rung) HM.out
    omega
  have t1 := S0.out.one
  have t2 := S0.out.last
  have q0 : IntKind.i64.wrap (t + mi) = t + mi := by rw [IntKind.wrap_i64]; omega
  have q1 : IntKind.i64.wrap ((L.length : Int) - 1) = (L.length : Int) - 1 := by rw [IntKind.wrap_i64]; omega
  have AG := Lib.hid (fun h => sz_again S0.out HM.out f5 h)
  have KS := wd_snz H9.out G9.out
  rw [es] at KS
  have KS' := Lib.hid KS
  have ER := Lib.hid er
  clear KS es er S0 HM f5 e5 G7 B9
  go_wp2_with fail
  refine KS'.out.mono ?_
  rintro x w10 ⟨a10, c10, rfl, o10, h10, b10⟩
  obtain ⟨gs, rfl, s10⟩ := own_first o10
  have Q10 := Lib.hid s10
  have R10 := Lib.hid (R9.out.on b10)
  have H10 := Lib.hid (h10.imp (K' := fun k => k = gs) (fun k hk => Or.inr (by rw [hk]; rfl)))
  clear KS' o10 h10 b10 H9 R9 s10
  have HS : Hid (∀ X, Below w10.heap.size w10 X → (fun X : World => (X.cell? ⟨gs, 0, none⟩ = some (.int .i64 (t + mi)) ∧ X.cell? ⟨gs, 1, none⟩ = some (.string r.2.1) ∧ X.cell? ⟨gs, 2, none⟩ = some (.int .i64 r.2.2.1) ∧ X.cell? ⟨gs, 3, none⟩ = some (.int .i64 r.2.2.2.1) ∧ X.cell? ⟨gs, 4, none⟩ = some (.int .i64 r.2.2.2.2)) ∧ X.cell? ⟨gr, 1, none⟩ = some (.string r.2.1) ∧ X.cell? ⟨gr, 2, none⟩ = some (.int .i64 r.2.2.1)) X) := Lib.hid (fun X q => ⟨Q10.out.on q, (R10.out.on q).2.1, (R10.out.on q).2.2.1⟩)
  have bd : Below w10.heap.size w10 w10.drew := Below.drew (Below.refl _ _)
  have KR := wd_rung (H10.out.onB (K' := fun k => k = gs) bd (fun _ h => Or.inl h)) G9.out
  rw [ER.out] at KR
  have KR' : Hid (Calls Tryz.prog 9 #[.pointer (some ⟨b, 0, none⟩)] w10.drew fun x w11 => ∃ a c, x = .returned (.slice a (drp L r).length c) ∧ Hid (Wd W1 w11 b (D.snooze r mi) (fun k => k = gs)) ∧ Below w10.heap.size w10 w11) := Lib.hid (KR.mono (fun x w11 ⟨a, c, hx, _, h, hb⟩ => ⟨a, c, hx, Lib.hid (h.imp (fun _ h => Or.inl h)), bd.trans hb⟩))
  have bl10 := H10.out.lt
  clear KR bd
  go_upto_region 18 with fail
  go_region_held3 (fun X : World => (X.cell? ⟨gs, 0, none⟩ = some (.int .i64 (t + mi)) ∧ X.cell? ⟨gs, 1, none⟩ = some (.string r.2.1) ∧ X.cell? ⟨gs, 2, none⟩ = some (.int .i64 r.2.2.1) ∧ X.cell? ⟨gs, 3, none⟩ = some (.int .i64 r.2.2.2.1) ∧ X.cell? ⟨gs, 4, none⟩ = some (.int .i64 r.2.2.2.2)) ∧ X.cell? ⟨gr, 1, none⟩ = some (.string r.2.1) ∧ X.cell? ⟨gr, 2, none⟩ = some (.int .i64 r.2.2.1))
    (first | exact HS.out _ (Below.drew (Below.refl _ w10)) | exact HS.out _ hb11)
    (first | (go_at_call 9; refine KR'.out.mono ?_; rintro x w11 ⟨a11, c11, rfl, H11, hb11⟩))
  obtain ⟨s11, _⟩ := HS.out w11 hb11
  have Q11 : Hid (QBx w11 gs (t + mi, r.2)) := Lib.hid s11
  clear HS hb11 KR' H10 Q10 R10 bl10 q1 hlr s11
  have bl11 := H11.out.lt
  go_wp2_with fail
  refine (wd_tick (t + mi) H11.out G9.out HT.out).mono ?_
  rintro x w12 ⟨a12, c12, rfl, o12, h12, k12⟩
  have Q12 := Lib.hid (qbx_of Q11.out (k12 gs rfl))
  have O12 := Lib.hid o12
  have H12 := Lib.hid (h12.imp (K' := fun k => k = gs) (fun _ h => Or.inl h))
  have G12 := Lib.hid (G9.out.tick (t + mi))
  have B12 := Lib.hid (TRUE.out w12 h12.below)
  clear o12 h12 k12 Q11 H11 bl11
  by_cases f6 : ticF (D.snooze r mi) (t + mi) = 0
  case neg =>
    rw [efault_ne f6]
    clear O12 H12 G12 AG Q12
    go_wp2
    go_ret
    exact ⟨rfl, B12.out⟩
  rw [f6, efault_0]
  obtain ⟨A1, A2, A3, A4, A5⟩ := AG.out f6
  have E3 := Lib.hid A3
  have E45 := Lib.hid (And.intro A4 A5)
  have E2 := Lib.hid A2
  generalize ticL (D.snooze r mi) (t + mi) = L6 at A1 O12 ⊢
  generalize (D.snooze r mi).tick (t + mi) = E at H12 G12 E2 E3 E45 ⊢
  have KH : Hid (Calls Tryz.prog 16 #[.slice a12 L6.length c12, agQ (t + mi, r.2)] w12 fun e w' => e = .returned (.bool true) ∧ Below w12.heap.size w12 w') := Lib.hid (by
    have := has_any L6 (t + mi, r.2) _ w12 O12.out.rd (own_most O12.out)
    rwa [A1] at this)
  clear A1 A2 A3 A4 A5 O12 f6 AG G9 ER
  obtain ⟨z0, z1, z2, z3, z4⟩ := Q12.out
  have zl := cell_in z0
  go_wp2_with fail
  refine KH.out.mono ?_
  rintro x w13 ⟨rfl, hb13⟩
  have Q13 := Lib.hid (Q12.out.on hb13)
  have H13 := Lib.hid (H12.out.onB (K' := fun k => k = gs) hb13 (fun _ h => Or.inl h))
  clear KH hb13 Q12 H12
  have bd : Below w13.heap.size w13 w13.drew := Below.drew (Below.refl _ _)
  have HS : Hid (∀ X, Below w13.heap.size w13 X → (fun X : World => X.cell? ⟨gs, 0, none⟩ = some (.int .i64 (t + mi)) ∧ X.cell? ⟨gs, 1, none⟩ = some (.string r.2.1) ∧ X.cell? ⟨gs, 2, none⟩ = some (.int .i64 r.2.2.1) ∧ X.cell? ⟨gs, 3, none⟩ = some (.int .i64 r.2.2.2.1) ∧ X.cell? ⟨gs, 4, none⟩ = some (.int .i64 r.2.2.2.2)) X) := Lib.hid (fun X q => Q13.out.on q)
  have KR : Hid (Calls Tryz.prog 9 #[.pointer (some ⟨b, 0, none⟩)] w13.drew fun x w14 => ∃ a c, x = .returned (.slice a E.rung.length c) ∧ Below w13.heap.size w13 w14 ∧ Hid (Calls Tryz.prog 16 #[.slice a E.rung.length c, agQ (t + mi, r.2)] w14 fun y w15 => y = .returned (.bool true) ∧ Below w13.heap.size w13 w15)) := Lib.hid
    ((wd_rung (H13.out.onB (K' := fun k => k = gs) bd (fun _ h => Or.inl h)) G12.out).mono (fun x w14 ⟨a, c, hx, ho, _, hb⟩ => ⟨a, c, hx, bd.trans hb, Lib.hid ((has_any E.rung (t + mi, r.2) _ w14 ho.rd (own_most ho)).mono (fun y w15 ⟨hy, hb2⟩ => ⟨by rw [hy, E2.out], (bd.trans hb).trans (hb2.mono (bd.trans hb).size)⟩))⟩))
  have bl13 := H13.out.lt
  clear bd
  go_upto_region 24 with fail
  go_region_held3 (fun X : World => X.cell? ⟨gs, 0, none⟩ = some (.int .i64 (t + mi)) ∧ X.cell? ⟨gs, 1, none⟩ = some (.string r.2.1) ∧ X.cell? ⟨gs, 2, none⟩ = some (.int .i64 r.2.2.1) ∧ X.cell? ⟨gs, 3, none⟩ = some (.int .i64 r.2.2.2.1) ∧ X.cell? ⟨gs, 4, none⟩ = some (.int .i64 r.2.2.2.2))
    (first | exact HS.out _ (Below.drew (Below.refl _ w13)) | exact HS.out _ hb15 | exact HS.out _ hb14)
    (first | (go_at_call 9; refine KR.out.mono ?_; rintro x w14 ⟨a14, c14, rfl, hb14, K14⟩) | (go_at_call 16; refine K14.out.mono ?_; rintro x w15 ⟨rfl, hb15⟩))
  have Q15 : Hid (QBx w15 gs (t + mi, r.2)) := Lib.hid (HS.out w15 hb15)
  have H15 := Lib.hid (H13.out.onB (K' := fun k => k = gs) hb15 (fun _ h => Or.inl h))
  have KS := wd_snz H15.out G12.out
  rw [E3.out] at KS
  have KS' := Lib.hid KS
  clear HS K14 KR H13 Q13 bl13 KS hb14 hb15
  have bl15 := H15.out.lt
  go_wp2_with fail
  refine KS'.out.mono ?_
  rintro x w16 ⟨a16, c16, rfl, _, h16, hb16⟩
  have H16 := Lib.hid (h16.imp (K' := fun k => k = gs) (fun _ h => Or.inl h))
  have Q16 := Lib.hid (Q15.out.on hb16)
  clear KS' H15 Q15 h16 hb16 bl15
  obtain ⟨z0, z1, z2, z3, z4⟩ := Q16.out
  have zl := cell_in z0
  go_wp2_with fail
  refine (wd_done (t + mi, r.2) H16.out G12.out HT.out).mono ?_
  rintro x w17 ⟨a17, c17, rfl, _, h17, k17⟩
  rw [show fault (donF E.rung (t + mi, r.2)) = .nilIface by unfold donF; rw [if_pos E2.out]; rfl]
  have Q17 := Lib.hid (qbx_of Q16.out (k17 gs rfl))
  have H17 := Lib.hid (h17.imp (K' := fun k => k = gs) (fun _ h => Or.inl h))
  have G17 := Lib.hid (G12.out.don (t + mi, r.2))
  clear h17 k17 z0 z1 z2 z3 z4 zl Q16 H16
  obtain ⟨z0, z1, z2, z3, z4⟩ := Q17.out
  have zl := cell_in z0
  go_wp2_with fail
  refine (wd_done (t + mi, r.2) H17.out G17.out HT.out).mono ?_
  rintro x w18 ⟨a18, c18, rfl, _, h18, _⟩
  rw [don_twice, show fault 5 = .iface 86 (.int .i64 5) from rfl]
  have H18 := Lib.hid (h18.imp (K' := fun _ => False) (fun _ h => h.elim))
  have G18 := Lib.hid (G17.out.don (t + mi, r.2))
  clear h18 z0 z1 z2 z3 z4 zl Q17 H17 G17
  go_wp2_with fail
  refine (error_errno 5 5 w18 (HX.out w18 H18.out.below).2.1).mono ?_
  rintro x w19 ⟨rfl, hb19⟩
  have H19 := Lib.hid (H18.out.onB (K' := fun _ => False) hb19 (fun _ h => h.elim))
  clear H18 hb19
  have nm := (HX.out w19 H19.out.below).1.1.1
  have zb := cell_in nm
  have bl19 := H19.out.lt
  obtain ⟨D1, D2, D3⟩ := drop_all (v := v) (D := (E.don (t + mi, r.2)).don (t + mi, r.2)) E45.out.1 (fun z hz => E45.out.2 z (drp_mem.1 (drp_mem.1 hz).1).1)
  have hn : v.name.size ≤ maxLen := by
    have h1 := G12.out.good (ownE v) (by rw [E45.out.1]; exact List.mem_singleton.2 rfl)
    have h2 := (evF_lens h1).1
    have h3 : v.name.size ≤ 8 := h2
    unfold maxLen
    omega
  have KD := wd_drop v.name hn H19.out G18.out HT.out
  rw [if_pos D1, if_pos D1] at KD
  have KD' := Lib.hid KD
  have G20 := Lib.hid (G18.out.dropd v.name)
  clear KD hn D1 G12 E2 E3 E45
  go_wp2_with fail
  refine KD'.out.mono ?_
  rintro x w20 ⟨a20, c20, rfl, _, h20, _⟩
  rw [efault_0]
  have H20 := Lib.hid (h20.imp (K' := fun _ => False) (fun _ h => h.elim))
  clear h20 KD' nm zb bl19 H19 G18
  have bl20 := H20.out.lt
  have KR := wd_rung H20.out G20.out
  rw [D2] at KR
  have KR' := Lib.hid KR
  clear KR
  go_wp2_with fail
  refine KR'.out.mono ?_
  rintro x w21 ⟨a21, c21, rfl, _, h21, _⟩
  have H21 := Lib.hid (h21.imp (K' := fun _ => False) (fun _ h => h.elim))
  clear KR' h21 H20 bl20
  have bl21 := H21.out.lt
  have KN := wd_names H21.out G20.out
  rw [D3] at KN
  have KN' := Lib.hid KN
  clear KN
  go_wp2_with fail
  refine KN'.out.mono ?_
  rintro x w22 ⟨a22, c22, rfl, h22, _, _⟩
  have B22 := Lib.hid (TRUE.out w22 h22.below)
  clear KN' h22 H21 bl21
  go_wp2
  go_ret
  exact ⟨rfl, B22.out⟩
end Go.Proofs.YthdohcjingfpoaaGreatDoor.Dk
