/-
  What is proved here: what package card's linesOf hands out (a contract over the translation).
-/
import Derived.Test.YtpplfcfhjpfckaaGreatDoorCbVal
import Derived.Test.YtpplfcfhjpfckaaGreatDoorRD
import Derived.RangeFuncCalls
import Derived.RangeFuncLeaves
import Derived.Shelf.Abstract
import Derived.Shelf.RegionOpen
import Derived.WalkKit
import Derived.OwnWalkIn
import Derived.TacticsInMore
import Derived.LoopNIn
import Derived.LoopIn
namespace Go.Proofs.YtpplfcfhjpfckaaGreatDoor
open Go.RowKit Go.Shelf Cal Txt Ln Cb
attribute [local go_sem] Oper.semAt_some

/-- Lines, by key and value. -/
def lnK (e : Evt) (k : Nat) : List (ByteArray × ByteArray) := (vls e k).map fun v => (tb (ky k), tb v)
def lnF (e : Evt) (k : Nat) : List (ByteArray × ByteArray) := ((List.range 9).drop k).flatMap (lnK e)
theorem lnF_on (e : Evt) {k : Nat} (h : k < 9) : lnF e k = lnK e k ++ lnF e (k + 1) := by
  unfold lnF
  rw [List.drop_eq_getElem_cons (by simpa using h), List.flatMap_cons, List.getElem_range]
theorem lnF_end (e : Evt) : lnF e 9 = [] := rfl
abbrev en2 (p : ByteArray × ByteArray) : Array Value := #[.string p.1, .string p.2]
/-- An event's box, as a block. -/
def EvK (W : World) (b : Nat) (e : Evt) (s : Evs) : Prop := W.heap[b]? = some (.cells (ecells e s) 29)
theorem EvK.lt {W : World} {b : Nat} {e : Evt} {s : Evs} (h : EvK W b e s) : b < W.heap.size := (Array.getElem?_eq_some_iff.1 h).1
theorem EvK.box {W : World} {b : Nat} {e : Evt} {s : Evs} (h : EvK W b e s) : EBox W b e s := by
  unfold EvK at h
  exact ⟨⟨by simp [World.cell?, h], by simp [World.cell?, h], by simp [World.cell?, h], by simp [World.cell?, h], by simp [World.cell?, h]⟩, ⟨by simp [World.cell?, h], by simp [World.cell?, h], by simp [World.cell?, h], by simp [World.cell?, h], by simp [World.cell?, h], by simp [World.cell?, h], by simp [World.cell?, h], by simp [World.cell?, h]⟩, by simp [World.cell?, h], by simp [World.cell?, h], by simp [World.cell?, h], by simp [World.cell?, h]⟩
theorem EvK.new (W : World) (e : Evt) (s : Evs) : EvK (W.alloc (.cells (ecells e s) 29)) W.heap.size e s := World.alloc_heap_new W _
theorem txs_blk {w : World} {g off n c : Nat} {l : List ByteArray} (h : Txs w (.slice (some ⟨g, off, none⟩) n c) l) (j : Nat) (hj : j < l.length) : w.cell? ⟨g, off + j, none⟩ = some (.string (l.getD j ByteArray.empty)) := by
  obtain ⟨a, cap, e, hc⟩ := h
  rcases hc with hc | ⟨b, o, ea, hc⟩
  · rw [hc] at hj; simp at hj
  · subst ea
    obtain ⟨⟨rfl, rfl⟩, _⟩ : (g = b ∧ off = o) ∧ n = l.length ∧ c = cap := by simpa using e
    exact hc j hj
theorem vls_len {e : Evt} (h : evF e = 0) (k : Nat) : (vls e k).length ≤ 100 := by
  obtain ⟨-, -, -, -, ⟨k1, k2, k3, k4⟩, -⟩ := evF_card h
  unfold vls
  repeat' split
  all_goals (first | (rw [List.length_map]; omega) | (simp; done))
/-- A struct or a row is loaded, inside a fence. -/
theorem load_in {F : Fence} {n : Nat} {P : Program} (w : World) {ops : Array Oper} {rest : List Oper} {o : Oper} {a : Act} {Q : Exit → Act → World → Prop}
    (hg : o.guard = none) (ty : TypeId) (x : Operand) (hop : o.op = .load ty x) (b of : Nat) (hx : a.eval x = .pointer (some ⟨b, of, none⟩)) (cs : List Value) (d : TypeDesc) (hc : w.rangeAt b of cs)
    (hu : P.underlying ty = some d) (hd : d.isRow = true) (hi : (P.info? ty).map (·.size) = some cs.length) (h : wpListIn F n P ops Q rest (a.put o.dst (.agg cs.toArray)) w) : wpListIn F n P ops Q (o :: rest) a w := by
  refine wpListIn_plain hg fun K hK' => ?_
  have hL := run_loadAt_mid (P := P) w b of ty cs d hc hu hd hi
  unfold Oper.wpIn
  refine ⟨?_, ?_⟩
  · simp [Oper.about, hop]
  · rw [Oper.semAt_plain F _ _ (by rw [hop]; intro c hc'; cases hc')]
    simp only [execOp, hop, hx, Sem.run_bind, hL, Result.andThen_ok, Sem.run_pure]
    exact hK' _ _ h
set_option maxRecDepth 100000 in
set_option maxHeartbeats 16000000 in
theorem lines_itr (e : Evt) (s : Evs) (n0 : Nat) (w0 : World) (eB : Nat) (hE : ∀ W, Below n0 w0 W → EvB W e s ∧ KeepK W) (he : EvK w0 eB e s) (hf : evF e = 0) :
    Sg.Itr Tryz.prog en2 30 #[.pointer (some ⟨eB, 0, none⟩)] (lnF e 0) n0 w0 (fun b => b = eB) := by
  intro σ f J JX l x S W FJ FX hY hJ hB hn hT
  have hK0 := (hE W hB).2.knd
  have HK0 := Lib.hid hK0
  have HB := Lib.hid hB
  have HT := Lib.hid hT
  have HE := Lib.hid hE
  have HY := Lib.hid hY
  have HJ := Lib.hid hJ
  have EK := Lib.hid he
  clear hB hT hE hY hJ he hK0
  refine (callsIn_wide (n := 3)).1 ?_
  refine callsIn_of_wp Tryz.func30 rfl trivial ?_ rfl
  simp only [Tryz.ntmps30, List.size_toArray, List.length_cons, List.length_nil, Nat.reduceAdd, Nat.reduceSub, Array.replicate_succ, Array.replicate_zero, List.push_toArray, List.append_toArray, List.nil_append, List.cons_append]
  gi_wp2_with (refine load_in _ rfl 78 _ rfl 0 0 rfl kC.toList _ HK0.out Tryz.underlying78 rfl (by kernel_rfl) ?_)
  clear HK0
  gi_loopw [8] (fun i wr => ∃ (k : Nat) (y : σ) (S' : Nat → Prop), k ≤ 9 ∧ i = .int .i64 k ∧ EvK wr eB e s ∧ J y S' wr ∧ Sg.run f x (lnF e 0) = Sg.run f y (lnF e k) ∧ Gr S W S' ∧ Kps (fun b => S b ∨ b = eB) W wr)
    (fun i _ => 9 - (intOf i).toNat)
  case atStart => exact ⟨0, x, S, Nat.zero_le _, rfl, (HT.out _ rfl).2.2.2.trans EK.out, HJ.out, rfl, Gr.refl _ _, Kps.refl _ _⟩
  case round =>
    obtain ⟨k, y, S', hk9, rfl, b1, hj, hrun, hg, hkp⟩ := hrel
    have hnW : n0 ≤ W.heap.size := Nat.le_trans hn HB.out.size
    have HN := Lib.hid (⟨Nat.lt_of_lt_of_le (HT.out eB rfl).1 HB.out.size, (HT.out eB rfl).2.1, (HT.out eB rfl).2.2.1⟩ : eB < W.heap.size ∧ n0 ≤ eB ∧ ¬ S eB)
    have HK := Lib.hid (fun X (q : Kps (fun b => S b ∨ b = eB) W X) => HB.out.trans (q.below (fun b hb => hb.elim (fun q => (FJ.lt _ _ _ HJ.out b q).1) (fun q => by rw [q]; exact (HT.out eB rfl).2.1)) hnW))
    have HR := Lib.hid hrun
    have hnr : n0 ≤ wr.heap.size := Nat.le_trans hnW hkp.size
    clear hrun
    by_cases hlt : k < 9
    · have ix := idxK k hlt
      have FO := Lib.hid (lnF_on e hlt)
      have hb0 : Below wr.heap.size wr (wr.alloc (.cells #[.string (tb (ky k)), .bool (mu k), .bool (decide (5 ≤ k))] 77)) := (Below.refl _ _).alloc (Nat.le_refl _) _
      have hkp1 : Kps (fun b => S b ∨ b = eB) W (wr.alloc (.cells #[.string (tb (ky k)), .bool (mu k), .bool (decide (5 ≤ k))] 77)) := hkp.trans (Kps.of_below (S := fun _ => False) hb0) (fun _ e => e.elim)
      have EA := HE.out _ (HK.out _ hkp1)
      have KV := Lib.hid (vals_any e s k hlt (wr.alloc (.cells #[.string (tb (ky k)), .bool (mu k), .bool (decide (5 ≤ k))] 77)) EA.1 hf EA.2)
      have sz0 : (wr.alloc (.cells #[.string (tb (ky k)), .bool (mu k), .bool (decide (5 ≤ k))] 77)).heap.size = wr.heap.size + 1 := by simp
      have kb0 : (wr.alloc (.cells #[.string (tb (ky k)), .bool (mu k), .bool (decide (5 ≤ k))] 77)).cell? ⟨wr.heap.size, 0, none⟩ = some (.string (tb (ky k))) := by simp
      have b1a : EvK (wr.alloc (.cells #[.string (tb (ky k)), .bool (mu k), .bool (decide (5 ≤ k))] 77)) eB e s := (hb0.block _ b1.lt).trans b1
      have G1 := Lib.hid (fun X (q : Below (wr.alloc (.cells #[.string (tb (ky k)), .bool (mu k), .bool (decide (5 ≤ k))] 77)).heap.size (wr.alloc (.cells #[.string (tb (ky k)), .bool (mu k), .bool (decide (5 ≤ k))] 77)) X) => (⟨(q.block _ b1a.lt).trans b1a, FJ.on _ _ _ _ hj ((hb0.trans (q.mono (by rw [sz0]; omega))).mono hnr) (fun b hb => (hb0.trans (q.mono (by rw [sz0]; omega))).block b (FJ.lt _ _ _ hj b hb).2), hkp1.trans (Kps.of_below (S := fun _ => False) q) (fun _ e => e.elim), (q.cell (p := ⟨wr.heap.size, 0, none⟩) (by rw [sz0]; exact Nat.lt_succ_self _)).trans kb0, by have := q.size; rw [sz0] at this; exact this⟩ :
        EvK X eB e s ∧ J y S' X ∧ Kps (fun b => S b ∨ b = eB) W X ∧ X.cell? ⟨wr.heap.size, 0, none⟩ = some (.string (tb (ky k))) ∧ wr.heap.size + 1 ≤ X.heap.size))
      have L1 := Lib.hid b1a.box.range
      obtain ⟨EV, hEV⟩ : ∃ EV, EV = Value.agg (ecells e s).toList.toArray := ⟨_, rfl⟩
      have KV2 : Hid (Calls Tryz.prog 31 #[EV, .string (tb (ky k))] (wr.alloc (.cells #[.string (tb (ky k)), .bool (mu k), .bool (decide (5 ≤ k))] 77)) (VlA (vls e k) (wr.alloc (.cells #[.string (tb (ky k)), .bool (mu k), .bool (decide (5 ≤ k))] 77)))) := Lib.hid (by rw [hEV]; exact KV.out)
      have HEV := Lib.hid hEV
      clear hEV KV
      have ebl : eB < wr.heap.size := b1.lt
      have LJ := Lib.hid (FJ.lt _ _ _ hj)
      clear EA b1a b1 hj hkp hkp1 hb0 kb0
      gi_wp2_with (refine load_in _ rfl 29 _ rfl eB 0 rfl (ecells e s).toList _ L1.out Tryz.underlying29 rfl (by kernel_rfl) ?_; rw [← HEV.out])
      clear L1 ix HEV
      refine ⟨trivial, (callsIn_wide.2 KV2.out).mono ?_⟩
      rintro y0 w2 ⟨u, rfl, hx, hnw, hb⟩
      obtain ⟨b1, hj, hkp2, kb, zs2⟩ := G1.out _ hb
      rw [sz0] at hnw
      have HX := Lib.hid hx
      have HW := Lib.hid hnw
      obtain ⟨av, cv, rfl, _⟩ := hx
      clear G1 KV2 hb hnw
      have LV : Hid (lnK e k = ((vls e k).map tb).map fun v => (tb (ky k), v)) := Lib.hid (by unfold lnK; rw [List.map_map]; rfl)
      have LL : ((vls e k).map tb).length ≤ 100 := by rw [List.length_map]; exact vls_len hf k
      generalize (vls e k).map tb = vs at HX LV HW LL
      gi_wp2_with fail
      clear sz0
      generalize wr.heap.size = kB at hnr ebl LJ kb zs2 HW ⊢
      gi_loopw [16] (fun i wq => ∃ (j : Nat) (y' : σ) (S2 : Nat → Prop), i = .int .i64 j ∧ j ≤ vs.length ∧ EvK wq eB e s ∧ J y' S2 wq ∧ wq.cell? ⟨kB, 0, none⟩ = some (.string (tb (ky k))) ∧
          Sg.run f x (lnF e 0) = Sg.run f y' ((vs.drop j).map (fun v => (tb (ky k), v)) ++ lnF e (k + 1)) ∧ Gr S W S2 ∧ Gr S' w2 S2 ∧ Kps (fun b => S b ∨ b = eB) W wq ∧ Txs wq (.slice av vs.length cv) vs ∧ w2.heap.size ≤ wq.heap.size)
        (fun i _ => vs.length - (intOf i).toNat)
      case atStart => exact ⟨0, y, S', by simp, Nat.zero_le _, b1, hj, kb, by rw [HR.out, FO.out, LV.out]; rfl, hg, Gr.refl _ _, hkp2, HX.out, Nat.le_refl _⟩
      case round =>
        clear b1 hj hkp2 kb
        obtain ⟨j, y', S2, rfl, hjl, b1, hj, kb, hrun2, hgA, hgB, hkp3, hX3, zs3⟩ := hrel
        have HR2 := Lib.hid hrun2
        have G2 := Lib.hid b1
        clear hrun2 b1
        by_cases hlv : j < vs.length
        · obtain ⟨av', cv', e', hc⟩ := id hX3
          obtain ⟨rfl, rfl⟩ : av = av' ∧ cv = cv' := by simpa using e'
          rcases hc with hc | ⟨g, off, rfl, hc⟩
          · rw [hc] at hlv; simp at hlv
          have k1 := hc j hlv
          obtain ⟨n, hn⟩ : ∃ n, n = vs.getD j ByteArray.empty := ⟨_, rfl⟩
          rw [← hn] at k1
          have gF : kB + 1 ≤ g := HW.out _ _ _ rfl
          have g2 : g < w2.heap.size := ecell_in (txs_blk HX.out j hlv)
          have gS : ¬ S2 g := fun q => by
            rcases hgB g q with z | z
            · have := (LJ.out g z).2; omega
            · omega
          have rS : ¬ S2 kB := fun q => by
            rcases hgB _ q with z | z
            · have := (LJ.out _ z).2; omega
            · omega
          have eS : ¬ S2 eB := fun z => (hgA eB z).elim HN.out.2.2 (fun u => absurd HN.out.1 (Nat.not_lt.2 u))
          have DR : Hid ((vs.drop j).map (fun v => (tb (ky k), v)) = (tb (ky k), n) :: (vs.drop (j + 1)).map (fun v => (tb (ky k), v))) := Lib.hid (by rw [List.drop_eq_getElem_cons hlv, hn, List.getD_eq_getElem?_getD, List.getElem?_eq_getElem hlv]; rfl)
          obtain ⟨fn, tmps, assign, body, hy, hR⟩ := HY.out y' S2 wr (tb (ky k), n) (3 - 1) hj ⟨(vs.drop (j + 1)).map (fun v => (tb (ky k), v)) ++ lnF e (k + 1), by rw [HR2.out, DR.out]; rfl⟩
          have kbl : kB < wr.heap.size := ecell_in kb
          have KI : Hid (∀ X, Kps S2 wr X → Txs X (.slice (some ⟨g, off, none⟩) vs.length cv) vs) := Lib.hid (fun X q => ⟨some ⟨g, off, none⟩, cv, rfl, Or.inr ⟨g, off, rfl, fun i hi => (World.cell?_of_block (q.block g (by omega) gS)).trans (hc i hi)⟩⟩)
          have KB : Hid (∀ X, Kps S2 wr X → X.cell? ⟨kB, 0, none⟩ = some (.string (tb (ky k)))) := Lib.hid (fun X q => (World.cell?_of_block (q.block kB kbl rS)).trans kb)
          have KX : Hid (∀ X, Kps S2 wr X → EvK X eB e s ∧ Kps (fun b => S b ∨ b = eB) W X) := Lib.hid (fun X q => ⟨(q.block _ G2.out.lt eS).trans G2.out, hkp3.trans q (fun b z => (hgA b z).imp Or.inl id)⟩)
          simp only [en2] at hy
          clear e' hc hn gS rS eS g2 gF hX3
          rcases hf : f y' (tb (ky k), n) with ⟨y2, _ | _⟩
          · rw [hf] at hR
            have RN : Hid (Sg.run f x (lnF e 0) = (y2, false)) := Lib.hid (by rw [HR2.out, DR.out, List.cons_append, Sg.run_no hf])
            clear hf
            gi_wp2
            clear k1
            refine hR.mono ?_
            rintro y0 W3 ⟨rfl, S3, g3, k3, ho⟩
            obtain ⟨b1, k4⟩ := KX.out _ k3
            have hX : JX y2 S3 W3 := by
              rcases ho with ⟨u, _⟩ | ⟨_, u⟩
              · cases u
              · exact u
            have GA := Lib.hid (hgA.trans g3 hkp3.size)
            have ZZ := Lib.hid (show (∃ S', Gr S W S' ∧ Kps (fun k => S k ∨ k = eB) W W3 ∧ Out J JX (Sg.run f x (lnF e 0)) S' W3) from ⟨S3, GA.out, k4, by rw [RN.out]; exact Or.inr ⟨rfl, hX⟩⟩)
            clear b1 k4 k3 g3 ho hX KI KX KB hkp3 hgA hgB hj hy hR kb
            gi_wp2
            refine bodyPost_ret (results_none rfl _ _ _) rfl ?_
            exact ⟨⟨_, rfl⟩, ZZ.out⟩
          · rw [hf] at hR
            have RN : Hid (Sg.run f x (lnF e 0) = Sg.run f y2 ((vs.drop (j + 1)).map (fun v => (tb (ky k), v)) ++ lnF e (k + 1))) := Lib.hid (by rw [HR2.out, DR.out, List.cons_append, Sg.run_yes hf])
            clear hf
            gi_wp2
            clear k1
            refine hR.mono ?_
            rintro y0 W3 ⟨rfl, S3, g3, k3, ho⟩
            obtain ⟨b1, k4⟩ := KX.out _ k3
            have hX : J y2 S3 W3 := by
              rcases ho with ⟨_, u⟩ | ⟨u, _⟩
              · exact u
              · cases u
            have GA := Lib.hid (hgA.trans g3 hkp3.size)
            have GB := Lib.hid (hgB.trans g3 zs3)
            have ZI := Lib.hid (KI.out _ k3)
            have ZB := Lib.hid (KB.out _ k3)
            have z4 : w2.heap.size ≤ W3.heap.size := Nat.le_trans zs3 k3.size
            have Z1 := Lib.hid b1
            have Z5 := Lib.hid k4
            have Z6 := Lib.hid hX
            clear b1 k4 k3 g3 ho hX KI KX KB hkp3 hgA hgB hj hy hR kb
            gi_wp2
            go_roundw
            case rel => exact ⟨j + 1, y2, S3, by go_num, by omega, Z1.out, Z6.out, ZB.out, RN.out, GA.out, GB.out, Z5.out, ZI.out, z4⟩
            case measure => simp [intOf]; omega
        · have RN : Hid (Sg.run f x (lnF e 0) = Sg.run f y' (lnF e (k + 1))) := Lib.hid (by rw [HR2.out, List.drop_eq_nil_of_le (by omega)]; rfl)
          have GA := Lib.hid hgA
          have Z5 := Lib.hid hkp3
          have Z6 := Lib.hid hj
          clear hkp3 hj hgA hgB hX3 kb
          gi_wp2
          go_roundw
          case rel => exact ⟨k + 1, y', S2, by omega, by go_num, G2.out, Z6.out, RN.out, GA.out, Z5.out⟩
          case measure => simp [intOf]; omega
    · have e9 : k = 9 := by omega
      subst e9
      rw [lnF_end] at HR
      gi_wp2
      refine bodyPost_end (results_none rfl _ _ _) rfl ?_
      exact ⟨⟨_, rfl⟩, S', hg, hkp, by rw [HR.out, Sg.run_nil]; exact Or.inl ⟨rfl, hj⟩⟩
end Go.Proofs.YtpplfcfhjpfckaaGreatDoor
