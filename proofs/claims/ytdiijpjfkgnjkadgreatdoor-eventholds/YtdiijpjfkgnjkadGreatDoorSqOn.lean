/-
  What is proved here: what package seq's ofPeriods makes, and what its onFrom hands out (contracts over the translation).
-/
import Derived.Test.YtdiijpjfkgnjkadGreatDoorSqPer
import Derived.Laws.EntriesVeiled
namespace Go.Proofs.YtdiijpjfkgnjkadGreatDoor
open Go.RowKit Go.Shelf Cal Txt
attribute [local go_sem] Oper.semAt_some

/-- A rule and three numbers in four new blocks. -/
theorem four_new (w : World) (r : Rl) (am ad aw ap : Option Addr) (cm cd cw cp : Nat) (s k t : Int) : ∃ W, W = (((w.alloc (.cells #[.int .i64 r.freq, .int .i64 r.every, .int .i64 r.count, .int .i64 r.till, .slice am r.months.length cm, .slice ad r.days.length cd, .slice aw r.weeks.length cw, .slice ap r.pick.length cp] 25)).alloc (.cells #[.int .i64 s] 3)).alloc (.cells #[.int .i64 k] 3)).alloc (.cells #[.int .i64 t] 3) ∧ Below w.heap.size w W ∧ W.heap.size = w.heap.size + 4 ∧ RlB W w.heap.size r am ad aw ap cm cd cw cp ∧ Boxed W (w.heap.size + 1) 3 (.int .i64 s) ∧ Boxed W (w.heap.size + 2) 3 (.int .i64 k) ∧ Boxed W (w.heap.size + 3) 3 (.int .i64 t) := by
  refine ⟨_, rfl, ?_, by simp, ?_, ?_, ?_, ?_⟩
  · exact ((((Below.refl _ _).alloc (Nat.le_refl _) _).alloc (by simp) _).alloc (by simp; omega) _).alloc (by simp; omega) _
  · have h0 := RlB.new w r am ad aw ap cm cd cw cp
    unfold RlB at h0 ⊢
    rw [Below.heap_alloc _ _ _ (by simp; omega), Below.heap_alloc _ _ _ (by simp; omega), Below.heap_alloc _ _ _ (by simp), h0]
  · have h0 := Boxed.new (w.alloc (.cells #[.int .i64 r.freq, .int .i64 r.every, .int .i64 r.count, .int .i64 r.till, .slice am r.months.length cm, .slice ad r.days.length cd, .slice aw r.weeks.length cw, .slice ap r.pick.length cp] 25)) 3 (.int .i64 s)
    rw [World.size_alloc] at h0
    exact (h0.alloc _).alloc _
  · have h0 := Boxed.new ((w.alloc (.cells #[.int .i64 r.freq, .int .i64 r.every, .int .i64 r.count, .int .i64 r.till, .slice am r.months.length cm, .slice ad r.days.length cd, .slice aw r.weeks.length cw, .slice ap r.pick.length cp] 25)).alloc (.cells #[.int .i64 s] 3)) 3 (.int .i64 k)
    rw [World.size_alloc, World.size_alloc] at h0
    exact h0.alloc _
  · have h0 := Boxed.new (((w.alloc (.cells #[.int .i64 r.freq, .int .i64 r.every, .int .i64 r.count, .int .i64 r.till, .slice am r.months.length cm, .slice ad r.days.length cd, .slice aw r.weeks.length cw, .slice ap r.pick.length cp] 25)).alloc (.cells #[.int .i64 s] 3)).alloc (.cells #[.int .i64 k] 3)) 3 (.int .i64 t)
    rw [World.size_alloc, World.size_alloc, World.size_alloc] at h0
    exact h0
/-- A function that hands out numbers was made, in four new blocks. -/
def MadeA (P : Program) (w : World) (n0 : Nat) (g : Nat) (xs : List Int) (e : Ending) (w' : World) : Prop :=
  Below w.heap.size w w' ∧ w'.heap.size = w.heap.size + 4 ∧ ∃ lb, e = .returned (.func (.func g) #[] lb) ∧ Itr P g lb xs n0 w' (fun b => w.heap.size ≤ b ∧ b < w.heap.size + 4)
set_option maxRecDepth 100000 in
set_option maxHeartbeats 1000000 in
theorem ofPeriods_any (r : Rl) (am ad aw ap : Option Addr) (cm cd cw cp : Nat) (s k t : Int) (n0 : Nat) (w : World) (hE : Env n0 w (.agg #[.int .i64 r.freq, .int .i64 r.every, .int .i64 r.count, .int .i64 r.till, .slice am r.months.length cm, .slice ad r.days.length cd, .slice aw r.weeks.length cw, .slice ap r.pick.length cp]) r) :
    Calls Tryz.prog 123 #[(.agg #[.int .i64 r.freq, .int .i64 r.every, .int .i64 r.count, .int .i64 r.till, .slice am r.months.length cm, .slice ad r.days.length cd, .slice aw r.weeks.length cw, .slice ap r.pick.length cp]), .int .i64 s, .int .i64 k, .int .i64 t] w (MadeA Tryz.prog w n0 126 (flat r s t k)) := by
  obtain ⟨W, hW, hB, hz, h0, h1, h2, h3⟩ := four_new w r am ad aw ap cm cd cw cp s k t
  have IT := Lib.hid ((ofP_itr r am ad aw ap cm cd cw cp s k t n0 W (w.heap.size + 2) w.heap.size (w.heap.size + 1) (w.heap.size + 3) (hE.on (hB.mono hE.1)) h2 h0 h1 h3 (by omega) (by omega) (by omega)).more
    (T' := fun b => w.heap.size ≤ b ∧ b < w.heap.size + 4) (fun b hb => by omega))
  have HB := Lib.hid hB
  have HZ := Lib.hid hz
  have HW := Lib.hid hW
  clear hW hB hz h0 h1 h2 h3 hE
  go_enter Tryz.func123, Tryz.ntmps123
  go_wp2_with fail
  go_ret
  rw [← HW.out]
  exact ⟨HB.out, HZ.out, _, rfl, IT.out⟩
/-- Those behind a day alone. -/
def beh (s : Int) (l : List Int) : List Int := l.filter (fun n => decide (s < n))
def stB {σ : Type} (s : Int) (f : σ → Int → σ × Bool) (y : σ) (n : Int) : σ × Bool := if s < n then f y n else (y, true)
theorem run_beh {σ : Type} (s : Int) (f : σ → Int → σ × Bool) : ∀ (l : List Int) (y : σ), run (stB s f) y l = run f y (beh s l)
  | [], y => rfl
  | n :: l, y => by
    by_cases h : s < n
    · have e : beh s (n :: l) = n :: beh s l := by unfold beh; rw [List.filter_cons_of_pos (by simpa using h)]
      have e2 : stB s f y n = f y n := if_pos h
      rw [e]
      rcases hf : f y n with ⟨z, _ | _⟩
      · rw [run_no hf, run_no (e2.trans hf)]
      · rw [run_yes hf, run_yes (e2.trans hf)]; exact run_beh s f l z
    · have e : beh s (n :: l) = beh s l := by unfold beh; rw [List.filter_cons_of_neg (by simpa using h)]
      have e2 : stB s f y n = (y, true) := if_neg h
      rw [e, run_yes e2]; exact run_beh s f l y
set_option maxRecDepth 100000 in
set_option maxHeartbeats 4000000 in
theorem onF_itr (r : Rl) (am ad aw ap : Option Addr) (cm cd cw cp : Nat) (s k t : Int) (n0 : Nat) (w0 : World) (sB rB kB tB : Nat) (hE : Env n0 w0 (.agg #[.int .i64 r.freq, .int .i64 r.every, .int .i64 r.count, .int .i64 r.till, .slice am r.months.length cm, .slice ad r.days.length cd, .slice aw r.weeks.length cw, .slice ap r.pick.length cp]) r) (hs : Boxed w0 sB 3 (.int .i64 s)) (hr : RlB w0 rB r am ad aw ap cm cd cw cp) (hk : Boxed w0 kB 3 (.int .i64 k)) (ht : Boxed w0 tB 3 (.int .i64 t)) :
    Itr Tryz.prog 122 #[.pointer (some ⟨sB, 0, none⟩), .pointer (some ⟨rB, 0, none⟩), .pointer (some ⟨kB, 0, none⟩), .pointer (some ⟨tB, 0, none⟩)] (s :: beh s (flat r s t k)) n0 w0 (fun b => b = sB ∨ b = rB ∨ b = kB ∨ b = tB) := by
  intro σ f J JX l x S W FJ FX hY hJ hB hn hT
  have hnW : n0 ≤ W.heap.size := Nat.le_trans hn hB.size
  have HN := Lib.hid (fun b (q : b = sB ∨ b = rB ∨ b = kB ∨ b = tB) => (⟨Nat.lt_of_lt_of_le (hT b q).1 hB.size, (hT b q).2.1, (hT b q).2.2.1⟩ : b < W.heap.size ∧ n0 ≤ b ∧ ¬ S b))
  have hw : ∀ b, (b = sB ∨ b = rB ∨ b = kB ∨ b = tB) → W.heap[b]? = w0.heap[b]? := fun b hb => (hT b hb).2.2.2
  have b1 : Boxed W sB 3 (.int .i64 s) := bxd_same hs (hw _ (Or.inl rfl))
  have b2 : RlB W rB r am ad aw ap cm cd cw cp := (hw _ (Or.inr (Or.inl rfl))).trans hr
  have b3 : Boxed W kB 3 (.int .i64 k) := bxd_same hk (hw _ (Or.inr (Or.inr (Or.inl rfl))))
  have b4 : Boxed W tB 3 (.int .i64 t) := bxd_same ht (hw _ (Or.inr (Or.inr (Or.inr rfl))))
  have HE := Lib.hid (hE.on hB)
  have sB0 := hs.lt
  clear hw hT hs hr hk ht hE hB hn
  obtain ⟨W1, hW1⟩ : ∃ W1, W1 = W.alloc (.cells #[.func (.yield l) #[] #[]] 53) := ⟨_, rfl⟩
  have hB1 : Below W.heap.size W W1 := by rw [hW1]; exact (Below.refl _ _).alloc (Nat.le_refl _) _
  have y1 : Boxed W1 W.heap.size 53 (.func (.yield l) #[] #[]) := by rw [hW1]; exact Boxed.new _ _ _
  have J1 : J x S W1 := FJ.on _ _ _ _ hJ (hB1.mono hnW) (fun b hb => hB1.block b (FJ.lt _ _ _ hJ b hb).2)
  have LS := Lib.hid (fun b (hb : S b) => (FJ.lt _ _ _ hJ b hb).2)
  have z1 : W1.heap.size = W.heap.size + 1 := by rw [hW1]; simp
  have a1 : Boxed W1 sB 3 (.int .i64 s) := bxd_same b1 (hB1.block _ b1.lt)
  have a2 : RlB W1 rB r am ad aw ap cm cd cw cp := (hB1.block _ (HN.out rB (Or.inr (Or.inl rfl))).1).trans b2
  have a3 : Boxed W1 kB 3 (.int .i64 k) := bxd_same b3 (hB1.block _ b3.lt)
  have a4 : Boxed W1 tB 3 (.int .i64 t) := bxd_same b4 (hB1.block _ b4.lt)
  have HE1 := Lib.hid (HE.out.on (hB1.mono hnW))
  obtain ⟨fn, tmps, assign, body, hy, hR⟩ := hY x S W1 s (3 - 1) J1 ⟨_, rfl⟩
  have HY := Lib.hid hY
  have s1 := a1.cell
  have yc := y1.cell
  have HB1 := Lib.hid hB1
  have GA : Hid (∀ X S', Gr S W1 S' → Kps S W1 X → Boxed X sB 3 (.int .i64 s) ∧ RlB X rB r am ad aw ap cm cd cw cp ∧ Boxed X kB 3 (.int .i64 k) ∧ Boxed X tB 3 (.int .i64 t) ∧ Boxed X W.heap.size 53 (.func (.yield l) #[] #[]) ∧ Env n0 X (.agg #[.int .i64 r.freq, .int .i64 r.every, .int .i64 r.count, .int .i64 r.till, .slice am r.months.length cm, .slice ad r.days.length cd, .slice aw r.weeks.length cw, .slice ap r.pick.length cp]) r ∧ ¬ S' sB ∧ ¬ S' W.heap.size ∧ Gr S W S' ∧ Kps (fun b => S b ∨ (b = sB ∨ b = rB ∨ b = kB ∨ b = tB)) W X) := Lib.hid (fun X S' g q => by
    have nT : ∀ b, (b = sB ∨ b = rB ∨ b = kB ∨ b = tB) → ¬ S b := fun b hb => (HN.out b hb).2.2
    have nS : ¬ S W.heap.size := fun z => absurd (LS.out _ z) (Nat.lt_irrefl _)
    refine ⟨bxd_same a1 (q.block _ a1.lt (nT _ (Or.inl rfl))), (q.block _ (Array.getElem?_eq_some_iff.1 a2).1 (nT _ (Or.inr (Or.inl rfl)))).trans a2, bxd_same a3 (q.block _ a3.lt (nT _ (Or.inr (Or.inr (Or.inl rfl))))), bxd_same a4 (q.block _ a4.lt (nT _ (Or.inr (Or.inr (Or.inr rfl))))), bxd_same y1 (q.block _ y1.lt nS),
      HE1.out.on (q.below (fun b hb => (FJ.lt _ _ _ hJ b hb).1) (by omega)), ?_, ?_, ?_, ?_⟩
    · exact fun z => (g _ z).elim (nT _ (Or.inl rfl)) (fun u => by have := (HN.out sB (Or.inl rfl)).1; omega)
    · exact fun z => (g _ z).elim nS (fun u => by omega)
    · exact fun b z => (g b z).imp id (fun u => by omega)
    · exact (Kps.of_below (S := fun b => S b ∨ (b = sB ∨ b = rB ∨ b = kB ∨ b = tB)) HB1.out).trans q (fun b z => Or.inl (Or.inl z)))
  clear b1 b2 b3 b4 a1 a2 a3 a4 y1 hB1 HE hY
  refine (callsIn_wide (n := 3)).1 ?_
  refine callsIn_of_wp_marks Tryz.func122 rfl trivial ?_ rfl
  simp only [Tryz.ntmps122, List.size_toArray, List.length_cons, List.length_nil, Nat.reduceAdd, Nat.reduceSub, Array.replicate_succ, Array.replicate_zero, List.push_toArray, List.append_toArray, List.nil_append, List.cons_append]
  subst hW1
  rcases hf : f x s with ⟨y, _ | _⟩
  · rw [hf] at hR
    have RN : Hid (run f x (s :: beh s (flat r s t k)) = (y, false)) := Lib.hid (run_no hf _)
    clear hf
    gi_wp2
    refine hR.mono ?_
    clear s1 yc hy
    rintro e W2 ⟨rfl, S2, g2, k2, ho⟩
    obtain ⟨_, _, _, _, _, _, _, _, gW, kW⟩ := GA.out W2 S2 g2 k2
    have hX : JX y S2 W2 := by
      rcases ho with ⟨u, _⟩ | ⟨_, u⟩
      · cases u
      · exact u
    have ZZ := Lib.hid (show (∃ S', Gr S W S' ∧ Kps (fun b => S b ∨ (b = sB ∨ b = rB ∨ b = kB ∨ b = tB)) W W2 ∧ Out J JX (run f x (s :: beh s (flat r s t k))) S' W2) from ⟨S2, gW, kW, by rw [RN.out]; exact Or.inr ⟨rfl, hX⟩⟩)
    clear gW kW hX ho g2 k2 hR
    gi_wp2
    exact ⟨_, results_none rfl _ _ _, ⟨_, rfl⟩, ZZ.out⟩
  · rw [hf] at hR
    have RN : Hid (run f x (s :: beh s (flat r s t k)) = run (stB s f) y (flat r s t k)) := Lib.hid ((run_yes hf _).trans (run_beh s f _ y).symm)
    clear hf
    gi_wp2
    refine hR.mono ?_
    clear s1 yc hy
    rintro e W2 ⟨rfl, S2, g2, k2, ho⟩
    obtain ⟨e1, e2, e3, e4, e5, hE2, nS1, nS2, gW, kW⟩ := GA.out W2 S2 g2 k2
    have hj : J y S2 W2 := by
      rcases ho with ⟨_, u⟩ | ⟨u, _⟩
      · exact u
      · cases u
    have zW : W.heap.size + 1 ≤ W2.heap.size := by have := k2.size; omega
    have KO := Lib.hid (ofPeriods_any r am ad aw ap cm cd cw cp s k t n0 W2 hE2)
    have G1 : Hid (∀ X, Below W2.heap.size W2 X → Boxed X sB 3 (.int .i64 s) ∧ Boxed X W.heap.size 53 (.func (.yield l) #[] #[]) ∧ J y S2 X) := Lib.hid (fun X q => ⟨bxd_same e1 (q.block _ e1.lt), bxd_same e5 (q.block _ e5.lt), FJ.on _ _ _ _ hj (q.mono hE2.1) (fun b hb => q.block b (FJ.lt _ _ _ hj b hb).2)⟩)
    have L2 := Lib.hid (fun b (hb : S2 b) => (FJ.lt _ _ _ hj b hb))
    have c1 := e1.cell
    have c3 := e3.cell
    have c4 := e4.cell
    have n2 := hE2.1
    obtain ⟨q0, q1, q2, q3, q4, q5, q6, q7⟩ := e2.box
    clear ho hR e1 e2 e3 e4 e5 hE2 hj GA g2 k2
    gi_wp2_with fail
    clear c1 c3 c4 q0 q1 q2 q3 q4 q5 q6 q7
    refine ⟨trivial, (callsIn_wide.2 KO.out).mono ?_⟩
    rintro e w3 ⟨hb3, z3, lb, rfl, hI3⟩
    obtain ⟨e1, e5, hj⟩ := G1.out w3 hb3
    clear G1 KO
    gi_wp2_with fail
    have FI : Frm n0 (Wth (fun b => b = sB ∨ b = W.heap.size) (fun (_ : σ) X => Boxed X sB 3 (.int .i64 s) ∧ Boxed X W.heap.size 53 (.func (.yield l) #[] #[])) id J) := Wth.frm FJ (fun b hb => hb.elim (fun e => e ▸ (HN.out sB (Or.inl rfl)).2.1) (fun e => e ▸ hnW)) (fun _ X hX b hb => hb.elim (fun e => e ▸ hX.1.lt) (fun e => e ▸ hX.2.lt)) (fun _ X X' hX q => ⟨bxd_same hX.1 (q _ (Or.inl rfl)), bxd_same hX.2 (q _ (Or.inr rfl))⟩)
    have FZ : Frm n0 (Wth (fun b => b = sB ∨ b = W.heap.size) (fun (_ : σ) X => Boxed X sB 3 (.int .i64 s) ∧ Boxed X W.heap.size 53 (.func (.yield l) #[] #[])) id JX) := Wth.frm FX (fun b hb => hb.elim (fun e => e ▸ (HN.out sB (Or.inl rfl)).2.1) (fun e => e ▸ hnW)) (fun _ X hX b hb => hb.elim (fun e => e ▸ hX.1.lt) (fun e => e ▸ hX.2.lt)) (fun _ X X' hX q => ⟨bxd_same hX.1 (q _ (Or.inl rfl)), bxd_same hX.2 (q _ (Or.inr rfl))⟩)
    have sW := (HN.out sB (Or.inl rfl)).1
    refine rf_law2 (gf := 126) (lb := lb) rfl (enters_of Tryz.func126 (by kernel_rfl) rfl) hI3 (Below.refl _ _) (by omega) (stB s f)
      (Wth (fun b => b = sB ∨ b = W.heap.size) (fun (_ : σ) X => Boxed X sB 3 (.int .i64 s) ∧ Boxed X W.heap.size 53 (.func (.yield l) #[] #[])) id J)
      (fun c y S X => c = .ret ∧ Wth (fun b => b = sB ∨ b = W.heap.size) (fun (_ : σ) X => Boxed X sB 3 (.int .i64 s) ∧ Boxed X W.heap.size 53 (.func (.yield l) #[] #[])) id JX y S X)
      FI (fun c => ⟨fun y S X h => FZ.lt y S X h.2, fun y S X X' h q p => ⟨h.1, FZ.on y S X X' h.2 q p⟩⟩) y (fun b => S2 b ∨ (b = sB ∨ b = W.heap.size)) ⟨S2, fun b => Iff.rfl, fun b hb => hb.elim (fun e => e ▸ nS1) (fun e => e ▸ nS2), hj, e1, e5⟩ ?hT rfl ?a1 ?assign ?body ?done ?stop
    case hT =>
      rintro b ⟨t1, t2⟩
      refine ⟨by omega, by omega, ?_, rfl⟩
      rintro (z | rfl | rfl)
      · have := (L2.out b z).2; omega
      · omega
      · omega
    case assign =>
      intro l' n X K hK
      gi_wp2
      exact hK
    case body =>
      rintro l' y' S' n X ⟨S0, he, hd, hj', x1, x2⟩ hnX ⟨ns, hE⟩
      have HRE := Lib.hid hE
      clear hE
      have lx : ∀ b, (b = sB ∨ b = W.heap.size) → b < X.heap.size := fun b hb => hb.elim (fun e => e ▸ x1.lt) (fun e => e ▸ x2.lt)
      have c1 := x1.cell
      have c2 := x2.cell
      by_cases hsn : s < n
      · obtain ⟨fn', tmps', assign', body', hy', hR'⟩ := HY.out y' S0 X n (3 - 1) hj' ⟨beh s ns, by rw [RN.out, HRE.out, run_beh]; unfold beh; rw [List.filter_cons_of_pos (by simpa using hsn)]⟩
        rcases hf : f y' n with ⟨y2, _ | _⟩
        · rw [hf] at hR'
          have EF : Hid (stB s f y' n = (y2, false)) := Lib.hid ((if_pos hsn).trans hf)
          clear hf
          gi_wp2
          refine hR'.mono ?_
          clear c1 c2 hy'
          rintro e X2 ⟨rfl, S3, g3, k3, ho⟩
          obtain ⟨d1, d2, d3, d4⟩ := wth_step he hd lx g3 k3
          have hX : JX y2 S3 X2 := by
            rcases ho with ⟨u, _⟩ | ⟨_, u⟩
            · cases u
            · exact u
          have ZZ := Lib.hid (show (∃ y S'', stB s f y' n = (y, false) ∧ Gr S' X S'' ∧ Kps S' X X2 ∧ (Code.ret = .ret ∧ Wth (fun b => b = sB ∨ b = W.heap.size) (fun (_ : σ) X => Boxed X sB 3 (.int .i64 s) ∧ Boxed X W.heap.size 53 (.func (.yield l) #[] #[])) id JX y S'' X2)) from ⟨y2, _, EF.out, d3, d4, rfl, S3, fun b => Iff.rfl, d1, hX, bxd_same x1 (d2 _ (Or.inl rfl)), bxd_same x2 (d2 _ (Or.inr rfl))⟩)
          clear d1 d2 d3 d4 hX ho g3 k3 hR' x1 x2 he hd hj' lx
          gi_wp2
          obtain ⟨u1, u2, u3, u4, u5, _, u6⟩ := ZZ.out
          exact ⟨u1, u2, u3, u4, u5, rfl, u6⟩
        · rw [hf] at hR'
          have EF : Hid (stB s f y' n = (y2, true)) := Lib.hid ((if_pos hsn).trans hf)
          clear hf
          gi_wp2
          refine hR'.mono ?_
          clear c1 c2 hy'
          rintro e X2 ⟨rfl, S3, g3, k3, ho⟩
          obtain ⟨d1, d2, d3, d4⟩ := wth_step he hd lx g3 k3
          have hX : J y2 S3 X2 := by
            rcases ho with ⟨_, u⟩ | ⟨u, _⟩
            · exact u
            · cases u
          have ZZ := Lib.hid (show (∃ y S'', stB s f y' n = (y, true) ∧ Gr S' X S'' ∧ Kps S' X X2 ∧ Wth (fun b => b = sB ∨ b = W.heap.size) (fun (_ : σ) X => Boxed X sB 3 (.int .i64 s) ∧ Boxed X W.heap.size 53 (.func (.yield l) #[] #[])) id J y S'' X2) from ⟨y2, _, EF.out, d3, d4, S3, fun b => Iff.rfl, d1, hX, bxd_same x1 (d2 _ (Or.inl rfl)), bxd_same x2 (d2 _ (Or.inr rfl))⟩)
          clear d1 d2 d3 d4 hX ho g3 k3 hR' x1 x2 he hd hj' lx
          gi_wp2
          exact ZZ.out
      · have ZZ := Lib.hid (show (∃ y S'', stB s f y' n = (y, true) ∧ Gr S' X S'' ∧ Kps S' X X ∧ Wth (fun b => b = sB ∨ b = W.heap.size) (fun (_ : σ) X => Boxed X sB 3 (.int .i64 s) ∧ Boxed X W.heap.size 53 (.func (.yield l) #[] #[])) id J y S'' X) from ⟨y', S', if_neg hsn, Gr.refl _ _, Kps.refl _ _, S0, he, hd, hj', x1, x2⟩)
        clear x1 x2 he hd hj' lx
        gi_wp2
        refine ⟨fun _ h => (by cases h), ?_⟩
        gi_wp2
        exact ZZ.out
    case done =>
      rintro D y' S' X hD hSD hrun ⟨S0, he, hd, hj', x1, x2⟩ hg3 hk3 hDd
      have ZZ := Lib.hid (show (∃ S', Gr S W S' ∧ Kps (fun b => S b ∨ (b = sB ∨ b = rB ∨ b = kB ∨ b = tB)) W (X.putObj D (.deferred none)) ∧ Out J JX (run f x (s :: beh s (flat r s t k))) S' (X.putObj D (.deferred none))) from by
        have nD : ¬ S0 D := fun z => hSD ((he D).2 (Or.inl z))
        have kA : Kps (fun b => S b ∨ (b = sB ∨ b = rB ∨ b = kB ∨ b = tB)) W w3 := kW.trans (Kps.of_below (S := fun _ => False) hb3) (fun _ e => e.elim)
        have kB' := kA.trans hk3 (fun b hb => by
          rcases hb with (z | rfl | rfl) | z
          · exact (gW b z).imp Or.inl id
          · exact Or.inl (Or.inr (Or.inl rfl))
          · exact Or.inr (Nat.le_refl _)
          · exact Or.inr (by omega))
        have kD : Kps (fun b => b = D) X (X.putObj D (.deferred none)) := Kps.put _ rfl
        refine ⟨S0, fun b hb => ?_, kB'.trans kD (fun b e => Or.inr (by omega)), ?_⟩
        · rcases hg3 b ((he b).2 (Or.inl hb)) with (z | z) | z
          · exact gW b z
          · exact absurd hb (hd b z)
          · exact Or.inr (by omega)
        · rw [RN.out, hrun]
          exact Or.inl ⟨rfl, FJ.on _ _ _ _ hj' (kD.below (fun b e => by omega) (by have := hk3.size; omega)) (fun b hb => World.putObj_heap_other (fun e => nD (e ▸ hb)))⟩)
      gi_wp2
      refine ⟨by simp, .inl ⟨_, _, rfl, run_takeDeferred hDd, ?_⟩⟩
      exact ⟨_, results_none rfl _ _ _, ⟨_, rfl⟩, ZZ.out⟩
    case stop =>
      rintro D c y' S' X hD hSD hrun ⟨rfl, S0, he, hd, hj', x1, x2⟩ hg3 hk3 hDd
      have ZZ := Lib.hid (show (∃ S', Gr S W S' ∧ Kps (fun b => S b ∨ (b = sB ∨ b = rB ∨ b = kB ∨ b = tB)) W (X.putObj D (.deferred none)) ∧ Out J JX (run f x (s :: beh s (flat r s t k))) S' (X.putObj D (.deferred none))) from by
        have nD : ¬ S0 D := fun z => hSD ((he D).2 (Or.inl z))
        have kA : Kps (fun b => S b ∨ (b = sB ∨ b = rB ∨ b = kB ∨ b = tB)) W w3 := kW.trans (Kps.of_below (S := fun _ => False) hb3) (fun _ e => e.elim)
        have kB' := kA.trans hk3 (fun b hb => by
          rcases hb with (z | rfl | rfl) | z
          · exact (gW b z).imp Or.inl id
          · exact Or.inl (Or.inr (Or.inl rfl))
          · exact Or.inr (Nat.le_refl _)
          · exact Or.inr (by omega))
        have kD : Kps (fun b => b = D) X (X.putObj D (.deferred none)) := Kps.put _ rfl
        refine ⟨S0, fun b hb => ?_, kB'.trans kD (fun b e => Or.inr (by omega)), ?_⟩
        · rcases hg3 b ((he b).2 (Or.inl hb)) with (z | z) | z
          · exact gW b z
          · exact absurd hb (hd b z)
          · exact Or.inr (by omega)
        · rw [RN.out, hrun]
          exact Or.inr ⟨rfl, FX.on _ _ _ _ hj' (kD.below (fun b e => by omega) (by have := hk3.size; omega)) (fun b hb => World.putObj_heap_other (fun e => nD (e ▸ hb)))⟩)
      gi_wp2
      refine ⟨by simp, .inl ⟨_, _, rfl, run_takeDeferred hDd, ?_⟩⟩
      exact ⟨_, results_none rfl _ _ _, ⟨_, rfl⟩, ZZ.out⟩
set_option maxRecDepth 100000 in
set_option maxHeartbeats 1000000 in
theorem onFrom_any (r : Rl) (am ad aw ap : Option Addr) (cm cd cw cp : Nat) (s k t : Int) (n0 : Nat) (w : World) (hE : Env n0 w (.agg #[.int .i64 r.freq, .int .i64 r.every, .int .i64 r.count, .int .i64 r.till, .slice am r.months.length cm, .slice ad r.days.length cd, .slice aw r.weeks.length cw, .slice ap r.pick.length cp]) r) :
    Calls Tryz.prog 114 #[(.agg #[.int .i64 r.freq, .int .i64 r.every, .int .i64 r.count, .int .i64 r.till, .slice am r.months.length cm, .slice ad r.days.length cd, .slice aw r.weeks.length cw, .slice ap r.pick.length cp]), .int .i64 s, .int .i64 k, .int .i64 t] w (MadeA Tryz.prog w n0 122 (s :: beh s (flat r s t k))) := by
  obtain ⟨W, hW, hB, hz, h0, h1, h2, h3⟩ := four_new w r am ad aw ap cm cd cw cp s k t
  have IT := Lib.hid ((onF_itr r am ad aw ap cm cd cw cp s k t n0 W (w.heap.size + 1) w.heap.size (w.heap.size + 2) (w.heap.size + 3) (hE.on (hB.mono hE.1)) h1 h0 h2 h3).more
    (T' := fun b => w.heap.size ≤ b ∧ b < w.heap.size + 4) (fun b hb => by omega))
  have HB := Lib.hid hB
  have HZ := Lib.hid hz
  have HW := Lib.hid hW
  clear hW hB hz h0 h1 h2 h3 hE
  go_enter Tryz.func114, Tryz.ntmps114
  go_wp2_with fail
  go_ret
  rw [← HW.out]
  exact ⟨HB.out, HZ.out, _, rfl, IT.out⟩
end Go.Proofs.YtdiijpjfkgnjkadGreatDoor
