/-
  What is proved here: what package seq's ofPeriods hands out (a contract over the translation).
-/
import Derived.Test.YtdiijpjfkgnjkadGreatDoorSq
import Derived.Test.YtdiijpjfkgnjkadGreatDoorSqLaw
import Derived.Test.YtdiijpjfkgnjkadGreatDoorPeDays
import Derived.RangeFuncCalls
import Derived.RangeFuncLeaves
import Derived.Shelf.Abstract
import Derived.Shelf.RegionOpen
import Derived.WalkKit
import Derived.OwnWalkIn
import Derived.TacticsInMore
import Derived.LoopNIn
import Derived.LoopIn
namespace Go.Proofs.YtdiijpjfkgnjkadGreatDoor
open Go.RowKit Go.Shelf Cal Txt
attribute [local go_sem] Oper.semAt_some

/-- A rule's box, as a block. -/
def RlB (W : World) (b : Nat) (r : Rl) (am ad aw ap : Option Addr) (cm cd cw cp : Nat) : Prop := W.heap[b]? = some (.cells #[.int .i64 r.freq, .int .i64 r.every, .int .i64 r.count, .int .i64 r.till, .slice am r.months.length cm, .slice ad r.days.length cd, .slice aw r.weeks.length cw, .slice ap r.pick.length cp] 25)
theorem RlB.box {W : World} {b : Nat} {r : Rl} {am ad aw ap : Option Addr} {cm cd cw cp : Nat} (h : RlB W b r am ad aw ap cm cd cw cp) : RBox W b r.freq r.every r.count r.till (.slice am r.months.length cm) (.slice ad r.days.length cd) (.slice aw r.weeks.length cw) (.slice ap r.pick.length cp) := by
  unfold RlB at h
  exact ⟨by simp [World.cell?, h], by simp [World.cell?, h], by simp [World.cell?, h], by simp [World.cell?, h], by simp [World.cell?, h], by simp [World.cell?, h], by simp [World.cell?, h], by simp [World.cell?, h]⟩
theorem RlB.new (W : World) (r : Rl) (am ad aw ap : Option Addr) (cm cd cw cp : Nat) : RlB (W.alloc (.cells #[.int .i64 r.freq, .int .i64 r.every, .int .i64 r.count, .int .i64 r.till, .slice am r.months.length cm, .slice ad r.days.length cd, .slice aw r.weeks.length cw, .slice ap r.pick.length cp] 25)) W.heap.size r am ad aw ap cm cd cw cp := World.alloc_heap_new W _
/-- What lies below n0: the tables, the lists of a rule. -/
def Env (n0 : Nat) (w0 : World) (v : Value) (r : Rl) : Prop := n0 ≤ w0.heap.size ∧ ∀ W, Below n0 w0 W → RuleIn W v r ∧ Tab W
theorem Env.on {n0 : Nat} {w0 w1 : World} {v : Value} {r : Rl} (h : Env n0 w0 v r) (q : Below n0 w0 w1) : Env n0 w1 v r := ⟨Nat.le_trans h.1 q.size, fun W p => h.2 W (q.trans p)⟩
theorem Env.of {w : World} {v : Value} {r : Rl} (h : RuleIn w v r) (hT : Tab w) : Env w.heap.size w v r := ⟨Nat.le_refl _, fun _ q => ⟨h.on q, hT.below q⟩⟩
/-- A cell's number, for a measure. -/
def numAt (W : World) (b : Nat) : Int := intOf ((W.cell? ⟨b, 0, none⟩).getD undef)
theorem bxd_same {W W' : World} {b : Nat} {t : TypeId} {v : Value} (h : Boxed W b t v) (q : W'.heap[b]? = W.heap[b]?) : Boxed W' b t v := q.trans h
set_option maxRecDepth 100000 in
set_option maxHeartbeats 4000000 in
theorem ofP_itr (r : Rl) (am ad aw ap : Option Addr) (cm cd cw cp : Nat) (s k t : Int) (n0 : Nat) (w0 : World) (kB rB sB tB : Nat) (hE : Env n0 w0 (.agg #[.int .i64 r.freq, .int .i64 r.every, .int .i64 r.count, .int .i64 r.till, .slice am r.months.length cm, .slice ad r.days.length cd, .slice aw r.weeks.length cw, .slice ap r.pick.length cp]) r) (hk : Boxed w0 kB 3 (.int .i64 k)) (hr : RlB w0 rB r am ad aw ap cm cd cw cp) (hs : Boxed w0 sB 3 (.int .i64 s)) (ht : Boxed w0 tB 3 (.int .i64 t))
    (d1 : rB ≠ kB) (d2 : sB ≠ kB) (d3 : tB ≠ kB) :
    Itr Tryz.prog 126 #[.pointer (some ⟨kB, 0, none⟩), .pointer (some ⟨rB, 0, none⟩), .pointer (some ⟨sB, 0, none⟩), .pointer (some ⟨tB, 0, none⟩)] (flat r s t k) n0 w0 (fun b => b = kB ∨ b = rB ∨ b = sB ∨ b = tB) := by
  intro σ f J JX l x S W FJ FX hY hJ hB hn hT
  refine (callsIn_wide (n := 3)).1 ?_
  refine callsIn_of_wp Tryz.func126 rfl trivial ?_ rfl
  simp only [Tryz.ntmps126, List.size_toArray, List.length_cons, List.length_nil, Nat.reduceAdd, Nat.reduceSub, Array.replicate_succ, Array.replicate_zero, List.push_toArray, List.append_toArray, List.nil_append, List.cons_append]
  gi_wp2
  gi_loopw [6] (fun _ wr => ∃ (k' : Int) (y : σ) (S' : Nat → Prop), Boxed wr kB 3 (.int .i64 k') ∧ RlB wr rB r am ad aw ap cm cd cw cp ∧ Boxed wr sB 3 (.int .i64 s) ∧ Boxed wr tB 3 (.int .i64 t) ∧ J y S' wr ∧ run f x (flat r s t k) = run f y (flat r s t k') ∧ Gr S W S' ∧ Kps (fun b => S b ∨ (b = kB ∨ b = rB ∨ b = sB ∨ b = tB)) W wr)
    (fun _ wr => (109574 - numAt wr kB).toNat)
  case atStart =>
    have hw : ∀ b, (b = kB ∨ b = rB ∨ b = sB ∨ b = tB) → W.heap[b]? = w0.heap[b]? := fun b hb => (hT b hb).2.2.2
    exact ⟨k, x, S, bxd_same hk (hw _ (Or.inl rfl)), (hw _ (Or.inr (Or.inl rfl))).trans hr, bxd_same hs (hw _ (Or.inr (Or.inr (Or.inl rfl)))), bxd_same ht (hw _ (Or.inr (Or.inr (Or.inr rfl)))), hJ, rfl, Gr.refl _ _, Kps.refl _ _⟩
  case round =>
    obtain ⟨k', y, S', b1, b2, b3, b4, hj, hrun, hg, hkp⟩ := hrel
    have hnW : n0 ≤ W.heap.size := Nat.le_trans hn hB.size
    have HN := Lib.hid (fun b (q : b = kB ∨ b = rB ∨ b = sB ∨ b = tB) => (⟨Nat.lt_of_lt_of_le (hT b q).1 hB.size, (hT b q).2.1, (hT b q).2.2.1⟩ : b < W.heap.size ∧ n0 ≤ b ∧ ¬ S b))
    have HK := Lib.hid (fun X (q : Kps (fun b => S b ∨ (b = kB ∨ b = rB ∨ b = sB ∨ b = tB)) W X) => hB.trans (q.below (fun b hb => hb.elim (fun q => (FJ.lt _ _ _ hJ b q).1) (fun q => (hT b q).2.1)) hnW))
    have HE := Lib.hid (fun X (q : Below n0 w0 X) => hE.2 X q)
    have HY := Lib.hid hY
    have HR := Lib.hid hrun
    have M0 : Hid (numAt wr kB = k') := Lib.hid (by unfold numAt; rw [b1.cell]; rfl)
    have hnr : n0 ≤ wr.heap.size := Nat.le_trans hnW hkp.size
    have KB := Lib.hid (begin_any r _ s k' wr (HE.out _ (HK.out _ hkp)).1 (HE.out _ (HK.out _ hkp)).2)
    clear hE hk hr hs ht hB hT hY hrun hn
    have G1 := Lib.hid (fun X (q : Below wr.heap.size wr X) => (⟨bxd_same b1 (q.block _ b1.lt), (q.block _ (Array.getElem?_eq_some_iff.1 b2).1).trans b2, bxd_same b3 (q.block _ b3.lt), bxd_same b4 (q.block _ b4.lt), FJ.on _ _ _ _ hj (q.mono hnr) (fun b hb => q.block b (FJ.lt _ _ _ hj b hb).2), hkp.trans (Kps.of_below (S := fun _ => False) q) (fun _ e => e.elim)⟩ :
      Boxed X kB 3 (.int .i64 k') ∧ RlB X rB r am ad aw ap cm cd cw cp ∧ Boxed X sB 3 (.int .i64 s) ∧ Boxed X tB 3 (.int .i64 t) ∧ J y S' X ∧ Kps (fun b => S b ∨ (b = kB ∨ b = rB ∨ b = sB ∨ b = tB)) W X))
    have c1 := b1.cell
    have c3 := b3.cell
    obtain ⟨q0, q1, q2, q3, q4, q5, q6, q7⟩ := b2.box
    have LJ := Lib.hid (FJ.lt _ _ _ hj)
    clear b1 b2 b3 b4 hj
    gi_wp2_with fail
    clear c1 c3 q0 q1 q2 q3 q4 q5 q6 q7
    refine ⟨trivial, (callsIn_wide.2 KB.out).mono ?_⟩
    rintro e w1 ⟨rfl, hb⟩
    obtain ⟨b1, b2, b3, b4, hj, hkp1⟩ := G1.out _ hb
    have HB1 := Lib.hid hb
    have zs1 : wr.heap.size ≤ w1.heap.size := hb.size
    clear G1 KB hb hkp
    rcases hq : pE r s k' with _ | ⟨a, b⟩
    · have FN := Lib.hid (flat_none (t := t) hq)
      clear hq b1 b2 b3 b4
      simp only [BegA]
      gi_wp2
      refine bodyPost_ret (results_none rfl _ _ _) rfl ?_
      exact ⟨⟨_, rfl⟩, S', hg, hkp1, by rw [HR.out, FN.out, run_nil]; exact Or.inl ⟨rfl, hj⟩⟩
    have c4 := b4.cell
    simp only [BegA]
    by_cases hta : t < a
    · have FN := Lib.hid (flat_far (t := t) hq hta)
      clear hq b1 b2 b3 b4
      gi_wp2
      refine bodyPost_ret (results_none rfl _ _ _) rfl ?_
      exact ⟨⟨_, rfl⟩, S', hg, hkp1, by rw [HR.out, FN.out, run_nil]; exact Or.inl ⟨rfl, hj⟩⟩
    have FO := Lib.hid (flat_on (t := t) hq (by omega))
    have hkb := (pE_some hq).2.1
    have LD : Hid ((perD r s a b).length ≤ 1000) := Lib.hid (by
      have l1 := (pick_sub r.pick (allD r s a b)).length_le
      have l2 := List.length_filter_le (askB (comp r s)) (rng a (b + 1 - a).toNat)
      have l3 : (rng a (b + 1 - a).toNat).length = (b + 1 - a).toNat := by unfold rng; rw [List.length_map, List.length_range]
      have l4 := pE_len hq
      unfold perD
      unfold allD at l1 ⊢
      omega)
    have KD := Lib.hid (perDays_new r _ s k' w1 (HE.out _ (HK.out _ hkp1)).1 (HE.out _ (HK.out _ hkp1)).2)
    rw [show pD r s k' = some (perD r s a b) by unfold pD; rw [hq]] at KD
    clear hq
    generalize hds : perD r s a b = ds at KD LD FO
    clear hds
    have G1 := Lib.hid (fun X (q : Below w1.heap.size w1 X) => (⟨bxd_same b1 (q.block _ b1.lt), (q.block _ (Array.getElem?_eq_some_iff.1 b2).1).trans b2, bxd_same b3 (q.block _ b3.lt), bxd_same b4 (q.block _ b4.lt), FJ.on _ _ _ _ hj (q.mono (Nat.le_trans hnr zs1)) (fun b hb => q.block b (FJ.lt _ _ _ hj b hb).2), hkp1.trans (Kps.of_below (S := fun _ => False) q) (fun _ e => e.elim)⟩ :
      Boxed X kB 3 (.int .i64 k') ∧ RlB X rB r am ad aw ap cm cd cw cp ∧ Boxed X sB 3 (.int .i64 s) ∧ Boxed X tB 3 (.int .i64 t) ∧ J y S' X ∧ Kps (fun b => S b ∨ (b = kB ∨ b = rB ∨ b = sB ∨ b = tB)) W X))
    have c1 := b1.cell
    have c3 := b3.cell
    obtain ⟨q0, q1, q2, q3, q4, q5, q6, q7⟩ := b2.box
    clear b1 b2 b3 b4 hj
    gi_wp2_with fail
    clear c1 c3 c4 q0 q1 q2 q3 q4 q5 q6 q7
    refine ⟨trivial, (callsIn_wide.2 KD.out).mono ?_⟩
    rintro e w2 ⟨hb, ⟨h0, _⟩ | ⟨l', v', h0, rfl, hI, hF⟩⟩
    · cases h0
    obtain rfl : ds = l' := by injection h0
    obtain ⟨b1, b2, b3, b4, hj, hkp2⟩ := G1.out _ hb
    have zs2 : w1.heap.size ≤ w2.heap.size := hb.size
    clear G1 KD hb h0 hkp1
    have HI := Lib.hid hI
    have HF := Lib.hid hF
    obtain ⟨av, cv, rfl, _⟩ := hI
    clear hF
    gi_wp2_with fail
    gi_loopw [38] (fun i wq => ∃ (j : Nat) (y' : σ) (S2 : Nat → Prop), i = .int .i64 j ∧ j ≤ ds.length ∧ Boxed wq kB 3 (.int .i64 k') ∧ RlB wq rB r am ad aw ap cm cd cw cp ∧ Boxed wq sB 3 (.int .i64 s) ∧ Boxed wq tB 3 (.int .i64 t) ∧ J y' S2 wq ∧
        run f x (flat r s t k) = run f y' (ds.drop j ++ flat r s t (k' + 1)) ∧ Gr S W S2 ∧ Gr S' w2 S2 ∧ Kps (fun b => S b ∨ (b = kB ∨ b = rB ∨ b = sB ∨ b = tB)) W wq ∧ Ints wq (.slice av ds.length cv) ds ∧ w2.heap.size ≤ wq.heap.size)
      (fun i _ => ds.length - (intOf i).toNat)
    case atStart => exact ⟨0, y, S', by simp, Nat.zero_le _, b1, b2, b3, b4, hj, by rw [HR.out, FO.out]; rfl, hg, Gr.refl _ _, hkp2, HI.out, Nat.le_refl _⟩
    case round =>
      clear b1 b2 b3 b4 hj hkp2
      obtain ⟨j, y', S2, rfl, hjl, b1, b2, b3, b4, hj, hrun2, hgA, hgB, hkp3, hI3, zs3⟩ := hrel
      have HR2 := Lib.hid hrun2
      have G2 := Lib.hid b2
      clear hrun2 b2
      have ld := LD.out
      by_cases hlt : j < ds.length
      · obtain ⟨av', cv', e', hc⟩ := id hI3
        obtain ⟨rfl, rfl⟩ : av = av' ∧ cv = cv' := by simpa using e'
        rcases hc with hc | ⟨g, off, rfl, hc⟩
        · rw [hc] at hlt; simp at hlt
        have k1 := hc j hlt
        obtain ⟨n, hn⟩ : ∃ n, n = ds.getD j 0 := ⟨_, rfl⟩
        rw [← hn] at k1
        have gF : w1.heap.size ≤ g := HF.out g rfl
        have g2 : g < w2.heap.size := by
          obtain ⟨a2, c2, e2, h2⟩ := HI.out
          rcases h2 with h2 | ⟨g', off', h3, h4⟩
          · rw [h2] at hlt; simp at hlt
          · have h5 := cell_in (h4 j hlt)
            obtain ⟨rfl, _⟩ : some (⟨g, off, none⟩ : Addr) = a2 ∧ cv = c2 := by simpa using e2
            cases h3
            exact h5
        have gS : ¬ S2 g := fun q => by
          rcases hgB g q with z | z
          · have := (LJ.out g z).2; omega
          · omega
        have DR : Hid (ds.drop j = n :: ds.drop (j + 1)) := Lib.hid (by rw [List.drop_eq_getElem_cons hlt, hn, List.getD_eq_getElem?_getD, List.getElem?_eq_getElem hlt]; rfl)
        obtain ⟨fn, tmps, assign, body, hy, hR⟩ := HY.out y' S2 wr n (3 - 1) hj ⟨ds.drop (j + 1) ++ flat r s t (k' + 1), by rw [HR2.out, DR.out]; rfl⟩
        have NT := Lib.hid (fun b (q : b = kB ∨ b = rB ∨ b = sB ∨ b = tB) => fun (z : S2 b) => (hgA b z).elim (HN.out b q).2.2 (fun u => absurd (HN.out b q).1 (Nat.not_lt.2 u)))
        have KI : Hid (∀ X, Kps S2 wr X → Ints X (.slice (some ⟨g, off, none⟩) ds.length cv) ds) := Lib.hid (fun X q => ⟨some ⟨g, off, none⟩, cv, rfl, Or.inr ⟨g, off, rfl, fun i hi => (World.cell?_of_block (q.block g (by omega) gS)).trans (hc i hi)⟩⟩)
        have KX : Hid (∀ X, Kps S2 wr X → Boxed X kB 3 (.int .i64 k') ∧ RlB X rB r am ad aw ap cm cd cw cp ∧ Boxed X sB 3 (.int .i64 s) ∧ Boxed X tB 3 (.int .i64 t) ∧ Kps (fun b => S b ∨ (b = kB ∨ b = rB ∨ b = sB ∨ b = tB)) W X) :=
          Lib.hid (fun X q => ⟨bxd_same b1 (q.block _ b1.lt (NT.out _ (Or.inl rfl))), (q.block _ (Array.getElem?_eq_some_iff.1 G2.out).1 (NT.out _ (Or.inr (Or.inl rfl)))).trans G2.out, bxd_same b3 (q.block _ b3.lt (NT.out _ (Or.inr (Or.inr (Or.inl rfl))))), bxd_same b4 (q.block _ b4.lt (NT.out _ (Or.inr (Or.inr (Or.inr rfl))))),
            hkp3.trans q (fun b z => (hgA b z).imp Or.inl id)⟩)
        clear e' hc hn gS g2 gF b1 b3 b4 hI3 NT
        rcases hf : f y' n with ⟨y2, _ | _⟩
        · rw [hf] at hR
          have RN : Hid (run f x (flat r s t k) = (y2, false)) := Lib.hid (by rw [HR2.out, DR.out, List.cons_append, run_no hf])
          clear hf
          gi_wp2
          clear k1
          refine hR.mono ?_
          rintro e W3 ⟨rfl, S3, g3, k3, ho⟩
          obtain ⟨b1, b2, b3, b4, k4⟩ := KX.out _ k3
          have hX : JX y2 S3 W3 := by
            rcases ho with ⟨u, _⟩ | ⟨_, u⟩
            · cases u
            · exact u
          have GA := Lib.hid (hgA.trans g3 hkp3.size)
          have ZZ := Lib.hid (show (∃ S', Gr S W S' ∧ Kps (fun k => S k ∨ k = kB ∨ k = rB ∨ k = sB ∨ k = tB) W W3 ∧ Out J JX (run f x (flat r s t k)) S' W3) from ⟨S3, GA.out, k4, by rw [RN.out]; exact Or.inr ⟨rfl, hX⟩⟩)
          clear b1 b2 b3 b4 k4 k3 g3 ho hX KI KX hkp3 hgA hgB hj hy hR
          gi_wp2
          refine bodyPost_ret (results_none rfl _ _ _) rfl ?_
          exact ⟨⟨_, rfl⟩, ZZ.out⟩
        · rw [hf] at hR
          have RN : Hid (run f x (flat r s t k) = run f y2 (ds.drop (j + 1) ++ flat r s t (k' + 1))) := Lib.hid (by rw [HR2.out, DR.out, List.cons_append, run_yes hf])
          clear hf
          gi_wp2
          clear k1
          refine hR.mono ?_
          rintro e W3 ⟨rfl, S3, g3, k3, ho⟩
          obtain ⟨b1, b2, b3, b4, k4⟩ := KX.out _ k3
          have hX : J y2 S3 W3 := by
            rcases ho with ⟨_, u⟩ | ⟨u, _⟩
            · exact u
            · cases u
          have GA := Lib.hid (hgA.trans g3 hkp3.size)
          have GB := Lib.hid (hgB.trans g3 zs3)
          have ZI := Lib.hid (KI.out _ k3)
          have z4 : w2.heap.size ≤ W3.heap.size := Nat.le_trans zs3 k3.size
          have Z1 := Lib.hid b1
          have Z2 := Lib.hid b2
          have Z3 := Lib.hid b3
          have Z4 := Lib.hid b4
          have Z5 := Lib.hid k4
          have Z6 := Lib.hid hX
          clear b1 b2 b3 b4 k4 k3 g3 ho hX KI KX hkp3 hgA hgB hj hy hR
          gi_wp2
          go_roundw
          case rel => exact ⟨j + 1, y2, S3, by go_num, by omega, Z1.out, Z2.out, Z3.out, Z4.out, Z6.out, RN.out, GA.out, GB.out, Z5.out, ZI.out, z4⟩
          case measure => simp [intOf]; omega
      · have RN : Hid (run f x (flat r s t k) = run f y' (flat r s t (k' + 1))) := Lib.hid (by rw [HR2.out, List.drop_eq_nil_of_le (by omega), List.nil_append])
        have c1 := b1.cell
        have f1 := b1.frozen
        have NK : ¬ S2 kB := fun z => (hgA kB z).elim (HN.out kB (Or.inl rfl)).2.2 (fun u => absurd (HN.out kB (Or.inl rfl)).1 (Nat.not_lt.2 u))
        have ne : ∀ {b : Nat}, b ≠ kB → (wr.setCell ⟨kB, 0, none⟩ (.int .i64 (k' + 1))).heap[b]? = wr.heap[b]? := fun h => Below.heap_setCell _ _ _ _ h
        have KS : Kps (fun b => b = kB) wr (wr.setCell ⟨kB, 0, none⟩ (.int .i64 (k' + 1))) := Kps.set _ rfl
        have Z1 := Lib.hid (b1.set (.int .i64 (k' + 1)))
        have Z2 : Hid (RlB (wr.setCell ⟨kB, 0, none⟩ (.int .i64 (k' + 1))) rB r am ad aw ap cm cd cw cp) := Lib.hid ((ne d1).trans G2.out)
        have Z3 := Lib.hid (bxd_same b3 (ne d2))
        have Z4 := Lib.hid (bxd_same b4 (ne d3))
        have Z5 := Lib.hid (hkp3.trans KS (fun b z => Or.inl (Or.inr (Or.inl z))))
        have Z6 := Lib.hid (FJ.on _ _ _ _ hj (KS.below (n0 := n0) (fun b z => by rw [z]; exact (HN.out kB (Or.inl rfl)).2.1) (by omega)) (fun b z => ne (fun e => NK (e ▸ z))))
        have GA := Lib.hid hgA
        have ME : Hid (numAt (wr.setCell ⟨kB, 0, none⟩ (.int .i64 (k' + 1))) kB = k' + 1) := Lib.hid (by unfold numAt; rw [Z1.out.cell]; rfl)
        clear ne KS b1 b3 b4 hkp3 hj hgA hI3 hgB
        gi_wp2
        go_roundw
        case rel => exact ⟨k' + 1, y', S2, Z1.out, Z2.out, Z3.out, Z4.out, Z6.out, RN.out, GA.out, Z5.out⟩
        case measure => rw [ME.out, M0.out]; omega
end Go.Proofs.YtdiijpjfkgnjkadGreatDoor
