/-
  What is proved here: what the document's Between answers of an event and a zone that are right (a contract over the translation).
-/
import Derived.Test.YtoncfgfjdlgfcaaGreatDoorRA
import Derived.Test.YtoncfgfjdlgfcaaGreatDoorBZ
import Derived.Maps.AppendAt
import Derived.Deep.Cut
import Derived.Deep.CutRange
import Derived.Deep.CutBlock
import Derived.BigQuiet
namespace Go.Proofs.YtoncfgfjdlgfcaaGreatDoor
open Go.RowKit Cal Txt

/-- Three numbers lie in a block. -/
def Tri3 (W : World) (b : Nat) (y : Tm) : Prop := W.cell? ⟨b, 0, none⟩ = some (.int .i64 y.1) ∧ W.cell? ⟨b, 1, none⟩ = some (.int .i64 y.2.1) ∧ W.cell? ⟨b, 2, none⟩ = some (.int .i64 y.2.2)
theorem z3_old3 {w w3 : World} {t : TypeId} (h : Below (w.alloc (.cells #[.int .i64 0, .int .i64 0, .int .i64 0] t)).drew.heap.size (w.alloc (.cells #[.int .i64 0, .int .i64 0, .int .i64 0] t)).drew w3) : Zr3 w3 w.heap.size ∧ w.heap.size < w3.heap.size := by
  have q : Zr3 (w.alloc (.cells #[.int .i64 0, .int .i64 0, .int .i64 0] t)).drew w.heap.size := by
    refine ⟨⟨?_, ?_, ?_⟩, ?_, ?_, ?_⟩ <;> simp
  have r := q.on h
  exact ⟨r, ecell_in r.1.1⟩
theorem wnm4 {n : Nat} {w w' : World} (_ : Below n w w') : ∃ x, x = w' := ⟨_, rfl⟩
theorem pk_off {a : Int} {l : List (Int × Int)} {e : Evt} {fr t x : Int} (h : tmO a l e x = none) : pkO a l e fr t x = none := by unfold pkO; rw [h]
theorem pk_out {a : Int} {l : List (Int × Int)} {e : Evt} {fr t x : Int} {T : Tm} (h : tmO a l e x = some T) (q : ¬ (fr ≤ T.2.1 ∧ T.2.1 < t)) : pkO a l e fr t x = none := by unfold pkO; rw [h]; exact if_neg q
/-- A Time is stored into a row. -/
theorem tm_store {ops : Array Oper} {rest : List Oper} {op : Oper} {a : Act} {W : World} {Q : Exit → Act → World → Prop} (hgd : op.guard = none) (x y : Operand) (ho : op.op = .store 44 x y) (hd : op.dst = none)
    (b o : Nat) (c : Tm) (hx : a.eval x = .pointer (some ⟨b, o, none⟩)) (hy : a.eval y = .agg #[.int .i64 c.1, .int .i64 c.2.1, .int .i64 c.2.2]) (ht : W.there b o 3)
    (h : wpList Tryz.prog ops Q rest a (W.setCells b o (encT c))) : wpList Tryz.prog ops Q (op :: rest) a W := by
  refine wpList_store_mid hgd 44 x y ho b o #[.int .i64 c.1, .int .i64 c.2.1, .int .i64 c.2.2] hx hy ht (by kernel_rfl) (by simp [Value.oneCell']) ?_
  rw [hd]
  exact h
theorem own_there3 {w : World} {n0 g cap n : Nat} {C : List Tm} (h : w.ownsRow n0 44 3 (.slice (some ⟨g, 0, none⟩) n cap) n (prt C)) (j : Nat) (hj : j < n) : w.there g (j * 3) 3 := fun c hc => by
  have hl : (prt C).length = n * 3 := h.1
  have e : w.cell? ⟨g, j * 3 + c, none⟩ = (prt C)[j * 3 + c]? := h.cellAt (j * 3 + c) (by omega)
  exact ⟨by rw [e, List.getElem?_eq_getElem (by omega)]; rfl, h.frozenAt _⟩
theorem own_cells3 {w : World} {n0 g cap n : Nat} {C : List Tm} (h : w.ownsRow n0 44 3 (.slice (some ⟨g, 0, none⟩) n cap) n (prt C)) (j : Nat) (hj : j < C.length) : w.cell? ⟨g, j * 3, none⟩ = some (.int .i64 (C.getD j (0, 0, 0)).1) ∧ w.cell? ⟨g, j * 3 + 1, none⟩ = some (.int .i64 (C.getD j (0, 0, 0)).2.1) ∧ w.cell? ⟨g, j * 3 + 2, none⟩ = some (.int .i64 (C.getD j (0, 0, 0)).2.2) := by
  have hl : C.length * 3 = n * 3 := by rw [← prt_len]; exact h.1
  refine ⟨?_, ?_, ?_⟩
  · have := (h.cellAt (j * 3 + 0) (by omega)).trans (prt_at C j 0 hj (by omega)); exact this
  · exact (h.cellAt (j * 3 + 1) (by omega)).trans (prt_at C j 1 hj (by omega))
  · exact (h.cellAt (j * 3 + 2) (by omega)).trans (prt_at C j 2 hj (by omega))
theorem Tri3.cells {W : World} {b g o : Nat} {y : Tm} (h : Tri3 W b y) (hb : g ≠ b) (vs : List Value) : Tri3 (W.setCells g o vs) b y :=
  ⟨(World.cell?_setCells_out g vs o W ⟨b, 0, none⟩ (fun q _ => absurd q.symm hb)).trans h.1, (World.cell?_setCells_out g vs o W ⟨b, 1, none⟩ (fun q _ => absurd q.symm hb)).trans h.2.1, (World.cell?_setCells_out g vs o W ⟨b, 2, none⟩ (fun q _ => absurd q.symm hb)).trans h.2.2⟩
theorem ap_three (w : World) (x y z : Value) (t : TypeId) : ∀ (j : Nat) (u : Value), ([x, y, z] : List Value)[j]? = some u → (w.alloc (.cells #[x, y, z] t)).cell? ((⟨w.heap.size, 0, none⟩ : Addr).add j) = some u := by
  intro j u hj
  match j, hj with
  | 0, hj => simp at hj; subst hj; simp [Addr.add]
  | 1, hj => simp at hj; subst hj; simp [Addr.add]
  | 2, hj => simp at hj; subst hj; simp [Addr.add]
theorem ap_cell3 (x y z : Int) : ∀ u ∈ [Value.int .i64 x, .int .i64 y, .int .i64 z], u.oneCell' = true := by intro u hu; simp at hu; rcases hu with rfl | rfl | rfl <;> rfl
theorem gap_len (O : List Tm) (g : Tm) (j : Nat) (hj : j ≤ O.length) : (O.take j ++ g :: O.drop j).length = O.length + 1 := by
  rw [List.length_append, List.length_cons, List.length_take, List.length_drop]; omega
/-- What the document's Between tells, and that it lies in memory of its own. -/
def RbO (a : Int) (l : List (Int × Int)) (e : Evt) (fr t : Int) (w : World) (x : Ending) (w' : World) : Prop := ∃ u, x = .returned u ∧ Tms w' u (tmA a l e fr t) ∧ Below w.heap.size w w' ∧ ∀ g, u.ownBlock = some g → w.heap.size ≤ g ∧ g < w'.heap.size
/-- What it tells. -/
def RbA (a : Int) (l : List (Int × Int)) (e : Evt) (fr t : Int) (w : World) (x : Ending) (w' : World) : Prop := ∃ u, x = .returned u ∧ Tms w' u (tmA a l e fr t) ∧ Below w.heap.size w w'
set_option maxRecDepth 100000 in
set_option maxHeartbeats 16000000 in
theorem refBtw_own (a : Int) (l : List (Int × Int)) (v : Value) (e : Evt) (s : Evs) (fr t : Int) (w : World) (hz : ZoneIn w v a l) (hf : Zo.zf a l = 0) (hv : EvB w e s) (h : evF e = 0) (o1 : -1000000000 ≤ fr) (o2 : fr ≤ 1000000000) (o3 : -1000000000 ≤ t) (o4 : t ≤ 1000000000) :
    Calls Tryz.prog 47 #[v, .agg (ecells e s), .int .i64 fr, .int .i64 t] w (RbO a l e fr t w) := by
  obtain ⟨i0, hi0, hz0, hz1, hz2⟩ := info_parts info_ti_tm
  have HZ := Lib.hid (fun W (q : Below w.heap.size w W) => hz.on q)
  have HV := Lib.hid (fun W (q : Below w.heap.size w W) => hv.on q)
  obtain ⟨sa, sc, rfl⟩ := hz.form
  obtain ⟨W0, hW, B0, zz, Z0, R0⟩ := two_boxes w a l sa sc e s
  have HW := Lib.hid hW
  have HB := Lib.hid B0
  have HE := Lib.hid R0
  have HX := Lib.hid Z0
  have H0 := Lib.hid h
  have HF := Lib.hid hf
  have K1 := Lib.hid (refLocal_own e s (fr - 3000) (t + 3000) W0 (hv.on B0) h (by omega) (by omega))
  have KC := Lib.hid (fun W (q : Below w.heap.size w W) => refChg_any e s W (HV.out _ q) H0.out)
  have DR := Lib.hid (dcL_rise e (fr - 3000) (t + 3000))
  have DN := Lib.hid (evL_len (fr := fr - 3000) (t := t + 3000) h (show (dbL e (t + 3000)).length ≤ 200000 by have := dbL_len (t := t + 3000) h; omega))
  have CN : Hid ((chD e).length ≤ 100) := Lib.hid (by
    have cl := (evF_lens h).2.2.2.2.1
    unfold chD
    split
    · simp
    · exact Nat.le_trans (chK_len _ _ _) cl)
  have EN := Lib.hid (fun p O hp hO => BtI.end (a := a) (l := l) (e := e) (fr := fr) (t := t) (p := p) (O := O) h hf hp hO)
  have PS := Lib.hid (fun x (q : isE e x) r hr => rea_time (e := e) (x := x) (r := r) h q hr)
  have ED : evL (dbL e (t + 3000)) e (fr - 3000) (t + 3000) = dcL e (fr - 3000) (t + 3000) := rfl
  rw [ED] at DN
  have DM := Lib.hid (fun x (q : x ∈ dcL e (fr - 3000) (t + 3000)) => ((dcL_mem h).1 q).1)
  have CM := Lib.hid (fun x (q : x ∈ chD e) => ((chD_mem h x).1 q).1)
  generalize dcL e (fr - 3000) (t + 3000) = D at K1 DR DN EN DM
  generalize chD e = CH at KC CN EN CM
  clear hz hv hW B0 zz Z0 R0 h hf ED
  go_enter Tryz.func47, Tryz.ntmps47
  go_upto_region 1 with fail
  rw [← HW.out]
  clear HW
  go_wp2_with (refine ev_load (by rfl) (.tmp 5) (by rfl) (w.heap.size + 1) e s (by rfl) HE.out ?_)
  refine K1.out.mono ?_
  rintro y w1 ⟨v1, rfl, hi1, hb, hf1⟩
  have B1 := Lib.hid (HB.out.trans (hb.mono HB.out.size))
  have E1 := Lib.hid (HE.out.on hb)
  have X1 := Lib.hid (HX.out.on hb)
  have I1 := Lib.hid hi1
  have F1 := Lib.hid hf1
  clear hb hi1 hf1 K1 HB HE HX
  have K2 := Lib.hid (KC.out _ B1.out)
  clear KC
  go_wp2_with (refine ev_load (by rfl) (.tmp 5) (by rfl) (w.heap.size + 1) e s (by rfl) E1.out ?_)
  refine K2.out.mono ?_
  rintro y w2 ⟨v2, rfl, hi2, hb⟩
  have B2 := Lib.hid (B1.out.trans (hb.mono B1.out.size))
  have E2 := Lib.hid (E1.out.on hb)
  have X2 := Lib.hid (X1.out.on hb)
  have I2 := Lib.hid (I1.out.on hb)
  have C2 := Lib.hid hi2
  obtain ⟨ca, cc, rfl, hc⟩ := hi2
  have HC := Lib.hid hc
  clear hb hc K2 B1 E1 X1 I1
  go_wp2_with fail
  go_loopw [9, 11] (fun lv iv wr => ∃ k : Nat, k ≤ CH.length ∧ iv = .int .i64 k ∧ (∃ p, Ints wr lv p ∧ Frl lv p ∧ PutI D CH k p) ∧ Below w2.heap.size w2 wr) (fun _ iv _ => CH.length - (intOf iv).toNat)
  case atStart => exact ⟨0, Nat.zero_le _, rfl, ⟨D, I2.out, F1.out, PutI.start DR.out⟩, Below.refl _ _⟩
  case round =>
    obtain ⟨k, hk, rfl, ⟨p, hp1, hp2, hp3⟩, hB⟩ := hrel
    have HBr := Lib.hid hB
    have cn := CN.out
    by_cases hlt : k < CH.length
    · rcases HC.out with hc | ⟨cb, co, rfl, hc⟩
      · rw [hc] at hlt; simp at hlt
      have ck := (hB.cell (p := ⟨cb, co + k, none⟩) (ecell_in (hc k hlt))).trans (hc k hlt)
      have kl := ecell_in ck
      have KP := Lib.hid (refPut_any _ p (CH.getD k 0) wr hp1 hp2 (by have := hp3.2.2; have := DN.out; omega))
      have NX := Lib.hid (fun r (q : PutR p (CH.getD k 0) r) => hp3.next hlt q)
      generalize CH.getD k 0 = x at ck KP NX
      clear hc hp1 hp2 hp3 hB
      go_wp2_with fail
      clear ck kl
      refine KP.out.mono ?_
      rintro y w4 ⟨u4, r4, rfl, h1, h2, h3, hb⟩
      have Q := Lib.hid (show ∃ p, Ints w4 u4 p ∧ Frl u4 p ∧ PutI D CH (k + 1) p from ⟨r4, h1, h2, NX.out r4 h3⟩)
      have B4 := Lib.hid (HBr.out.trans (hb.mono HBr.out.size))
      clear h1 h2 h3 hb KP NX
      go_wp2
      go_roundw
      case rel => exact ⟨k + 1, by omega, by go_num, Q.out, B4.out⟩
      case measure => simp [intOf]; omega
    · have ek : k = CH.length := by omega
      rw [ek] at hp3
      obtain ⟨pr, pm, pn⟩ := hp3
      have PM : Hid (∀ x, x ∈ p ↔ x ∈ D ∨ x ∈ CH) := Lib.hid (fun x => by rw [pm x, List.take_length])
      have PR := Lib.hid pr
      have PN : p.length ≤ 200300 := by have := DN.out; omega
      have PE := Lib.hid (fun O hO => EN.out p O PM.out hO)
      have PT := Lib.hid (fun x (q : x ∈ p) r hr => PS.out x ((PM.out x).1 q |>.elim (DM.out x) (CM.out x)) r hr)
      obtain ⟨w3, rfl⟩ : ∃ w3, w3 = wr := ⟨_, rfl⟩
      have B3 := Lib.hid (B2.out.trans (hB.mono B2.out.size))
      have E3 := Lib.hid (E2.out.on hB)
      have X3 := Lib.hid (X2.out.on hB)
      obtain ⟨pa, pc, rfl, hpc⟩ := hp1
      have HP := Lib.hid hpc
      clear hp2 pr pm pn hB HBr HC C2 I2 F1 E2 X2 B2 hpc cn ek DR DN CN EN PS DM CM
      go_wp2_with fail
      go_loopw [12, 13, 14, 15, 16, 17] (fun lv iv _ _ _ _ wr => ∃ i : Nat, i ≤ p.length ∧ iv = .int .i64 i ∧ (∃ O, BtI a l e fr t p i O ∧ wr.ownsRow w3.heap.size 44 3 lv O.length (prt O)) ∧ Below w3.heap.size w3 wr) (fun _ iv _ _ _ _ _ => p.length - (intOf iv).toNat)
      case atStart => exact ⟨0, Nat.zero_le _, rfl, ⟨[], BtI.start, World.ownsRow_nil _ _ _ _⟩, Below.refl _ _⟩
      case round =>
        obtain ⟨i, hi, rfl, ⟨O, hO, hown⟩, hB⟩ := hrel
        obtain ⟨wx, hwx⟩ := wnm4 hB
        subst hwx
        have HBr := Lib.hid hB
        have HOw := Lib.hid hown
        have HBI := Lib.hid hO
        by_cases hlt : i < p.length
        · rcases HP.out with hc | ⟨pb, po, rfl, hc⟩
          · rw [hc] at hlt; simp at hlt
          have xm : p.getD i 0 ∈ p := by rw [List.getD_eq_getElem?_getD, List.getElem?_eq_getElem hlt]; exact List.getElem_mem hlt
          have c0 := hc i hlt
          have KX := Lib.hid (PT.out _ xm)
          have bw := B3.out.trans (hB.mono B3.out.size)
          have KT := Lib.hid (fun W (q : Below wx.heap.size wx W) => refTm_any a l _ e s (p.getD i 0) W (HZ.out _ (bw.trans (q.mono bw.size))) HF.out (HV.out _ (bw.trans (q.mono bw.size))) H0.out KX.out)
          have SK := Lib.hid (fun q => hO.skip hlt q)
          have PU := Lib.hid (fun y k q => hO.put (y := y) (k := k) hlt q)
          have OT := Lib.hid (fun y q j hj => hO.other (y := y) PR.out hlt q (j := j) hj)
          have OL := hO.2.2
          generalize p.getD i 0 = x at c0 KT SK PU OT
          have HS : Hid (∀ X, Below wx.heap.size wx X → (X.cell? ⟨w.heap.size + 1, 0, none⟩ = some (.string e.name) ∧ X.cell? ⟨w.heap.size + 1, 1, none⟩ = some (.string e.text) ∧ X.cell? ⟨w.heap.size + 1, 2, none⟩ = some (.int .i64 e.start) ∧ X.cell? ⟨w.heap.size + 1, 3, none⟩ = some (.int .i64 e.len) ∧ X.cell? ⟨w.heap.size + 1, 4, none⟩ = some (.bool e.rep) ∧ X.cell? ⟨w.heap.size + 1, 5, none⟩ = some (.int .i64 e.rule.freq) ∧ X.cell? ⟨w.heap.size + 1, 6, none⟩ = some (.int .i64 e.rule.every) ∧ X.cell? ⟨w.heap.size + 1, 7, none⟩ = some (.int .i64 e.rule.count) ∧ X.cell? ⟨w.heap.size + 1, 8, none⟩ = some (.int .i64 e.rule.till) ∧ X.cell? ⟨w.heap.size + 1, 9, none⟩ = some s.vm ∧ X.cell? ⟨w.heap.size + 1, 10, none⟩ = some s.vd ∧ X.cell? ⟨w.heap.size + 1, 11, none⟩ = some s.vw ∧ X.cell? ⟨w.heap.size + 1, 12, none⟩ = some s.vp ∧ X.cell? ⟨w.heap.size + 1, 13, none⟩ = some s.vo ∧ X.cell? ⟨w.heap.size + 1, 14, none⟩ = some s.vn ∧ X.cell? ⟨w.heap.size + 1, 15, none⟩ = some s.vc ∧ X.cell? ⟨w.heap.size + 1, 16, none⟩ = some s.va) ∧ (X.cell? ⟨w.heap.size, 0, none⟩ = some (.int .i64 a) ∧ X.cell? ⟨w.heap.size, 1, none⟩ = some (.slice sa l.length sc)) ∧ X.cell? ⟨pb, po + i, none⟩ = some (.int .i64 x)) := Lib.hid (fun X q => by
            have q3 := hB.trans (q.mono hB.size)
            exact ⟨ebox17 (E3.out.on q3), X3.out.on q3, (q3.cell (p := ⟨pb, po + i, none⟩) (ecell_in c0)).trans c0⟩)
          clear hc xm c0 KX bw hO hown hB
          go_upto_region 11 with fail
          go_cut [14, 15] from 38 to 130 (fun s14 s15 wy => ∃ (bx : Nat) (T : Tm) (ok : Bool), s14 = .pointer (some ⟨bx, 0, none⟩) ∧ s15 = .bool ok ∧ tmO a l e x = (if ok = true then some T else none) ∧ wx.heap.size ≤ bx ∧ Tri3 wy bx T ∧ Below wx.heap.size wx wy)
          case first =>
            go_region_held3 (fun X => (X.cell? ⟨w.heap.size + 1, 0, none⟩ = some (.string e.name) ∧ X.cell? ⟨w.heap.size + 1, 1, none⟩ = some (.string e.text) ∧ X.cell? ⟨w.heap.size + 1, 2, none⟩ = some (.int .i64 e.start) ∧ X.cell? ⟨w.heap.size + 1, 3, none⟩ = some (.int .i64 e.len) ∧ X.cell? ⟨w.heap.size + 1, 4, none⟩ = some (.bool e.rep) ∧ X.cell? ⟨w.heap.size + 1, 5, none⟩ = some (.int .i64 e.rule.freq) ∧ X.cell? ⟨w.heap.size + 1, 6, none⟩ = some (.int .i64 e.rule.every) ∧ X.cell? ⟨w.heap.size + 1, 7, none⟩ = some (.int .i64 e.rule.count) ∧ X.cell? ⟨w.heap.size + 1, 8, none⟩ = some (.int .i64 e.rule.till) ∧ X.cell? ⟨w.heap.size + 1, 9, none⟩ = some s.vm ∧ X.cell? ⟨w.heap.size + 1, 10, none⟩ = some s.vd ∧ X.cell? ⟨w.heap.size + 1, 11, none⟩ = some s.vw ∧ X.cell? ⟨w.heap.size + 1, 12, none⟩ = some s.vp ∧ X.cell? ⟨w.heap.size + 1, 13, none⟩ = some s.vo ∧ X.cell? ⟨w.heap.size + 1, 14, none⟩ = some s.vn ∧ X.cell? ⟨w.heap.size + 1, 15, none⟩ = some s.vc ∧ X.cell? ⟨w.heap.size + 1, 16, none⟩ = some s.va) ∧ (X.cell? ⟨w.heap.size, 0, none⟩ = some (.int .i64 a) ∧ X.cell? ⟨w.heap.size, 1, none⟩ = some (.slice sa l.length sc)) ∧ X.cell? ⟨pb, po + i, none⟩ = some (.int .i64 x))
              (first | exact HS.out _ (Below.drew (Below.refl _ wx)) | exact HS.out _ hb3 | exact HS.out _ (Below.alloc hb3 (Below.size hb3) _) | exact HS.out _ (Below.drew (Below.alloc (Below.refl _ wx) (Nat.le_refl _) _)) | exact HS.out _ (Below.setCell hb3 (Nat.le_refl _) _) | exact HS.out _ (Below.setCell (Below.setCell hb3 (Nat.le_refl _) _) (Nat.le_refl _) _) | exact HS.out _ (Below.setCell (Below.setCell (Below.setCell hb3 (Nat.le_refl _) _) (Nat.le_refl _) _) (Nat.le_refl _) _))
              (first
              | (go_at_call 96; refine (KT.out _ (Below.drew (Below.refl _ wx))).mono ?_; rintro y w5 ⟨T, ok, rfl, hT, hb3'⟩; have hb3 : Below wx.heap.size wx w5 := Below.trans (Below.drew (Below.refl _ wx)) hb3'; have HTO := Lib.hid hT; clear hb3' hT)
              | (go_at_call 96; refine (KT.out _ (Below.drew (Below.alloc (Below.refl _ wx) (Nat.le_refl _) _))).mono ?_; rintro y w5 ⟨T, ok, rfl, hT, hb3'⟩; have hb3 : Below wx.heap.size wx w5 := Below.trans (Below.drew (Below.alloc (Below.refl _ wx) (Nat.le_refl _) _)) (Below.mono hb3' (by simp)); obtain ⟨⟨⟨zc0, zc1, zc2⟩, zf0, zf1, zf2⟩, zlt⟩ := z3_old3 hb3'; have HTO := Lib.hid hT; clear hb3' hT))
            · have hA : Below wx.heap.size wx (w5.alloc (.cells #[.int .i64 T.1, .int .i64 T.2.1, .int .i64 T.2.2] 44)) := hb3.alloc hb3.size _
              have TA : Tri3 (w5.alloc (.cells #[.int .i64 T.1, .int .i64 T.2.1, .int .i64 T.2.2] 44)) w5.heap.size T := by refine ⟨?_, ?_, ?_⟩ <;> simp
              have QA := Lib.hid (And.intro TA (And.intro hA hb3.size))
              clear hA TA hb3 HS KT
              go_wp2
              go_meet
              case rel => exact ⟨_, T, ok, rfl, rfl, HTO.out, QA.out.2.2, QA.out.1, QA.out.2.1⟩
            · have hA : Below wx.heap.size wx (((w5.setCell ⟨wx.heap.size, 0, none⟩ (.int .i64 T.1)).setCell ⟨wx.heap.size, 1, none⟩ (.int .i64 T.2.1)).setCell ⟨wx.heap.size, 2, none⟩ (.int .i64 T.2.2)) := ((hb3.setCell (p := ⟨wx.heap.size, 0, none⟩) (Nat.le_refl _) _).setCell (p := ⟨wx.heap.size, 1, none⟩) (Nat.le_refl _) _).setCell (p := ⟨wx.heap.size, 2, none⟩) (Nat.le_refl _) _
              have TA : Tri3 (((w5.setCell ⟨wx.heap.size, 0, none⟩ (.int .i64 T.1)).setCell ⟨wx.heap.size, 1, none⟩ (.int .i64 T.2.1)).setCell ⟨wx.heap.size, 2, none⟩ (.int .i64 T.2.2)) wx.heap.size T := by
                refine ⟨?_, ?_, ?_⟩
                · rw [World.cell?_setCell_other _ _ _ _ (by simp), World.cell?_setCell_other _ _ _ _ (by simp)]
                  exact World.cell?_setCell_same _ _ _ zc0
                · rw [World.cell?_setCell_other _ _ _ _ (by simp)]
                  exact World.cell?_setCell_same _ _ _ ((World.cell?_setCell_other _ _ _ _ (by simp)).trans zc1)
                · exact World.cell?_setCell_same _ _ _ ((World.cell?_setCell_other _ _ _ _ (by simp)).trans ((World.cell?_setCell_other _ _ _ _ (by simp)).trans zc2))
              have QA := Lib.hid (And.intro TA hA)
              clear hA TA hb3 HS KT
              go_wp2
              go_meet
              case rel => exact ⟨_, T, ok, rfl, rfl, HTO.out, Nat.le_refl _, QA.out.1, QA.out.2⟩
          case rest =>
          obtain ⟨bx, T, ok, rfl, rfl, hT, hbx, tri, hb⟩ := hcut
          obtain ⟨W4, hW4⟩ := wnm4 hb
          subst hW4
          have B4 := Lib.hid (HBr.out.trans (hb.mono HBr.out.size))
          have O4 := Lib.hid (ow_below HOw.out hb)
          obtain ⟨t0, t1, t2⟩ := tri
          have tl := ecell_in t0
          rcases ok with _ | _
          · have N := Lib.hid (SK.out (pk_off hT))
            clear SK PU OT hT t0 t1 t2 tl
            go_wp2
            go_roundw
            case rel => exact ⟨i + 1, by omega, by go_num, ⟨O, N.out, O4.out⟩, B4.out⟩
            case measure => simp [intOf]; omega
          have hT2 : tmO a l e x = some T := hT
          by_cases g1 : T.2.1 < fr
          · have N := Lib.hid (SK.out (pk_out hT2 (by omega)))
            clear SK PU OT hT hT2
            go_wp2
            go_roundw
            case rel => exact ⟨i + 1, by omega, by go_num, ⟨O, N.out, O4.out⟩, B4.out⟩
            case measure => simp [intOf]; omega
          by_cases g2 : t ≤ T.2.1
          · have N := Lib.hid (SK.out (pk_out hT2 (by omega)))
            clear SK PU OT hT hT2
            go_wp2
            go_roundw
            case rel => exact ⟨i + 1, by omega, by go_num, ⟨O, N.out, O4.out⟩, B4.out⟩
            case measure => simp [intOf]; omega
          have pk := pkO_some.2 ⟨hT2, show fr ≤ T.2.1 by omega, show T.2.1 < t by omega⟩
          have PUT := Lib.hid (fun k => PU.out T k pk)
          have OTH := Lib.hid (fun j hj => OT.out T pk j hj)
          obtain ⟨oa, oc, eo, hoc⟩ := own_tms O4.out
          have NE := Lib.hid (fun (z : _ = some bx) => show False by have := (HOw.out.lt bx z).2; omega)
          subst eo
          have HOC := Lib.hid hoc
          have TRI := Lib.hid (show Tri3 W4 bx T from ⟨t0, t1, t2⟩)
          clear SK PU OT hT hT2 pk hoc
          obtain ⟨T1, T2, T3⟩ := T
          dsimp only at t0 t1 t2 g1 g2
          go_upto_block 4 with fail
          clear t0 t1 t2 tl
          go_cut [16] from 38 to 130 (fun s16 wy => ∃ k : Nat, s16 = .int .i64 k ∧ k ≤ O.length ∧ (∀ j, k ≤ j → j < O.length → ltT (T1, T2, T3) (O.getD j (0, 0, 0))) ∧ (0 < k → ltT (O.getD (k - 1) (0, 0, 0)) (T1, T2, T3)) ∧ Dra W4 wy)
          case first =>
            go_wp2_with fail
            go_loopw [16] (fun kv wq => ∃ k : Nat, k ≤ O.length ∧ kv = .int .i64 k ∧ (∀ j, k ≤ j → j < O.length → ltT (T1, T2, T3) (O.getD j (0, 0, 0))) ∧ Dra W4 wq) (fun kv _ => (intOf kv).toNat)
            case atStart => exact ⟨O.length, Nat.le_refl _, rfl, fun j h1 h2 => by omega, Dra.refl _⟩
            case round =>
              obtain ⟨k, hk, rfl, hgt, hD⟩ := hrel
              obtain ⟨wq, hwq⟩ := wnm4 (hD.below 0)
              subst hwq
              have HD := Lib.hid hD
              have GT := Lib.hid hgt
              have t0 := (HD.out.cell ⟨bx, 0, none⟩).trans TRI.out.1
              have t1 := (HD.out.cell ⟨bx, 1, none⟩).trans TRI.out.2.1
              have tl := ecell_in t0
              clear hD hgt
              have HK := Lib.hid hk
              rcases Nat.eq_zero_or_pos k with h0 | h0
              · have H2 : Hid (0 < k → ltT (O.getD (k - 1) (0, 0, 0)) (T1, T2, T3)) := Lib.hid (fun q => by omega)
                have d1 : decide ((k : Int) > 0) = false := decide_eq_false (by omega)
                have d2 : decide ((0 : Int) < (k : Int)) = false := decide_eq_false (by omega)
                have d3 : decide (0 < k) = false := decide_eq_false (by omega)
                clear h0
                go_wp2_with fail
                go_quiet (fail)
                go_wp2
                go_meet
                case rel => exact ⟨k, rfl, HK.out, GT.out, H2.out, HD.out.step _⟩
              · obtain ⟨j, hj⟩ : ∃ j, k = j + 1 := ⟨k - 1, by omega⟩
                have hj1 : k - 1 = j := by omega
                rcases HOC.out with hc | ⟨gb, go, rfl, hc⟩
                · rw [hc] at hk; simp at hk; omega
                have y0 := (HD.out.cell ⟨gb, go + j * 3, none⟩).trans (hc j (by omega)).1
                have y1 := (HD.out.cell ⟨gb, go + j * 3 + 1, none⟩).trans (hc j (by omega)).2.1
                have yl := ecell_in y0
                have oj := OTH.out j (by omega)
                have GN : Hid (ltT (T1, T2, T3) (O.getD j (0, 0, 0)) → ∀ m, j ≤ m → m < O.length → ltT (T1, T2, T3) (O.getD m (0, 0, 0))) := Lib.hid (fun z m h1 h2 => by
                  rcases (by omega : m = j ∨ k ≤ m) with q | q
                  · rw [q]; exact z
                  · exact GT.out m q h2)
                have L2 : Hid (¬ ltT (T1, T2, T3) (O.getD j (0, 0, 0)) → 0 < k → ltT (O.getD (k - 1) (0, 0, 0)) (T1, T2, T3)) := Lib.hid (fun z _ => by
                  rw [hj1]
                  have := oj
                  unfold ltT at *
                  simp only at *
                  omega)
                generalize O.getD j (0, 0, 0) = Y at y0 y1 oj GN L2
                obtain ⟨Y1, Y2, Y3⟩ := Y
                dsimp only at y0 y1 t0 t1 oj
                have r1 : (0 : Int) ≤ (k : Int) - 1 := by omega
                have r2 : (k : Int) - 1 < (O.length : Int) := by omega
                have r3 : ((k : Int) - 1).toNat = j := by omega
                have d1 : decide ((k : Int) > 0) = true := decide_eq_true (by omega)
                have d2 : decide ((0 : Int) < (k : Int)) = true := decide_eq_true (by omega)
                have d3 : decide (0 < k) = true := decide_eq_true h0
                have HJ := Lib.hid hj
                clear hj hj1 hc oj
                by_cases c1 : T2 < Y2
                · have G := Lib.hid (GN.out (by unfold ltT; simp only; omega))
                  have e1 : decide (Y2 > T2) = true := decide_eq_true c1
                  have e2 : decide (T2 < Y2) = true := decide_eq_true c1
                  clear GN L2
                  go_wp2_with fail
                  go_quiet (fail)
                  go_wp2
                  go_roundw
                  case rel => exact ⟨j, by have := HJ.out; have := HK.out; omega, by have := HJ.out; first | go_num | (congr 1; omega), G.out, HD.out.step _⟩
                  case measure => simp [intOf]; omega
                have e1 : decide (Y2 > T2) = false := decide_eq_false (by omega)
                have e2 : decide (T2 < Y2) = false := decide_eq_false c1
                rcases c2 : (Y2 == T2) with _ | _
                · have H2 := Lib.hid (L2.out (by unfold ltT; simp only; have := beq_eq_false_iff_ne.1 c2; omega))
                  clear GN L2
                  go_wp2_with fail
                  go_quiet (fail)
                  go_wp2
                  go_meet
                  case rel => exact ⟨k, rfl, HK.out, GT.out, H2.out, HD.out.step _⟩
                have c2' := beq_iff_eq.1 c2
                by_cases c3 : T1 < Y1
                · have G := Lib.hid (GN.out (by unfold ltT; simp only; omega))
                  have e3 : decide (Y1 > T1) = true := decide_eq_true c3
                  have e4 : decide (T1 < Y1) = true := decide_eq_true c3
                  clear GN L2 c2'
                  go_wp2_with fail
                  go_quiet (fail)
                  go_wp2
                  go_roundw
                  case rel => exact ⟨j, by have := HJ.out; have := HK.out; omega, by have := HJ.out; first | go_num | (congr 1; omega), G.out, HD.out.step _⟩
                  case measure => simp [intOf]; omega
                · have H2 := Lib.hid (L2.out (by unfold ltT; simp only; omega))
                  have e3 : decide (Y1 > T1) = false := decide_eq_false (by omega)
                  have e4 : decide (T1 < Y1) = false := decide_eq_false c3
                  clear GN L2 c2'
                  go_wp2_with fail
                  go_quiet (fail)
                  go_wp2
                  go_meet
                  case rel => exact ⟨k, rfl, HK.out, GT.out, H2.out, HD.out.step _⟩
          case rest =>
          obtain ⟨k, rfl, hk, hgt, hlo, hD⟩ := hcut
          obtain ⟨wz, hwz⟩ := wnm4 (hD.below 0)
          subst hwz
          have HDz := Lib.hid hD
          have BI := Lib.hid (PUT.out k hk hgt hlo)
          clear hgt hlo hD PUT OTH HOC
          have O5 := Lib.hid (ow_below O4.out (HDz.out.below _))
          have BZ := Lib.hid (B4.out.trans (HDz.out.below _))
          have szz := BZ.out.size
          have t0 := (HDz.out.cell ⟨bx, 0, none⟩).trans TRI.out.1
          have t1 := (HDz.out.cell ⟨bx, 1, none⟩).trans TRI.out.2.1
          have t2 := (HDz.out.cell ⟨bx, 2, none⟩).trans TRI.out.2.2
          have tl := ecell_in t0
          dsimp only at t0 t1 t2
          go_wp2_with (at_builtin; refine wpList_append_own_at _ rfl _ _ 40 rfl w3.heap.size 44 i0 (.agg #[.int .i64 0, .int .i64 0, .int .i64 0]) 3 24 Tryz.underlying40 hi0 hz0 hz1 hz2 rfl (by decide) _ _ _ rfl (O5.out.alloc _) ⟨wz.heap.size, 0, none⟩ 1 1 [.int .i64 T1, .int .i64 T2, .int .i64 T3] rfl rfl (ap_three _ _ _ _ _) (ap_cell3 _ _ _) (by unfold maxLen; omega) (by omega) (by simp; omega) ?_)
          intro v6 w6 ho6 hg6 _ hob
          have B6 := Lib.hid (ow_grow szz BZ.out (Below.refl _ _) O5.out hg6)
          have c6 : ∀ c u, wz.cell? ⟨bx, c, none⟩ = some u → w6.cell? ⟨bx, c, none⟩ = some u := fun c u q => hg6.cell (Lib.cell?_alloc_some _ q) (fun z => NE.out z.symm)
          have TRI6 : Hid (Tri3 w6 bx (T1, T2, T3)) := Lib.hid ⟨c6 0 _ t0, c6 1 _ t1, c6 2 _ t2⟩
          have own6 : w6.ownsRow w3.heap.size 44 3 v6 (O.length + 1) (prt (O.take O.length ++ (T1, T2, T3) :: O.drop O.length)) := by rw [← gap_start, prt_snoc]; exact ho6
          rcases id own6.2 with ⟨_, z⟩ | ⟨g6, cap6, cur, e6, hb6, _⟩
          · omega
          subst e6
          have NE6 : g6 ≠ bx := fun z => by
            rcases hob with q | q
            · exact NE.out (by rw [← q, ← z]; rfl)
            · have q2 : g6 = (wz.alloc (.cells #[.int .i64 T1, .int .i64 T2, .int .i64 T3] 44)).heap.size := by simpa [Value.ownBlock] using q
              rw [World.size_alloc] at q2
              omega
          have OW6 := Lib.hid own6
          have G6 := Lib.hid (And.intro hb6 NE6)
          clear own6 ho6 hg6 hob c6 hb6 NE6 t0 t1 t2 tl O5 BZ szz O4 B4 TRI HDz HOw HBr NE
          go_wp2_with fail
          go_loopw [17] (fun jv wj => ∃ (j : Nat) (gg : Tm), k ≤ j ∧ j ≤ O.length ∧ jv = .int .i64 j ∧ wj.ownsRow w3.heap.size 44 3 (.slice (some ⟨g6, 0, none⟩) (O.length + 1) cap6) (O.length + 1) (prt (O.take j ++ gg :: O.drop j)) ∧ Tri3 wj bx (T1, T2, T3) ∧ Below w3.heap.size w3 wj) (fun jv _ => (intOf jv).toNat)
          case atStart => exact ⟨O.length, (T1, T2, T3), hk, Nat.le_refl _, by go_num, OW6.out, TRI6.out, B6.out⟩
          case round =>
            clear OW6 TRI6 B6
            obtain ⟨j, gg, hkj, hjO, rfl, hown7, htri, hB7⟩ := hrel
            obtain ⟨wj, hwj⟩ := wnm4 hB7
            subst hwj
            have O7 := Lib.hid hown7
            have T7 := Lib.hid htri
            have B7 := Lib.hid hB7
            have gl := gap_len O gg j hjO
            by_cases hj : k < j
            · obtain ⟨m, rfl⟩ : ∃ m, j = m + 1 := ⟨j - 1, by omega⟩
              have cl := own_cells3 hown7 m (by rw [gl]; omega)
              have ga := gap_at (g := gg) (show 0 < m + 1 by omega) hjO
              rw [Nat.add_sub_cancel] at ga
              rw [ga] at cl
              have th := own_there3 hown7 (m + 1) (by omega)
              have OS := own_set3 hown7 (m + 1) (by rw [gl]; omega) (O.getD m (0, 0, 0))
              have gs := gap_set (g := gg) (show 0 < m + 1 by omega) hjO
              rw [Nat.add_sub_cancel] at gs
              rw [gs] at OS
              have BS := Lib.hid (hB7.trans (blw_cells G6.out.1 (encT (O.getD m (0, 0, 0))) ((m + 1) * 3) wj))
              have TS := Lib.hid (htri.cells (o := (m + 1) * 3) G6.out.2 (encT (O.getD m (0, 0, 0))))
              generalize O.getD m (0, 0, 0) = Y at cl OS BS TS
              obtain ⟨y0, y1, y2⟩ := cl
              have HOS := Lib.hid OS
              have HTH := Lib.hid th
              have yl := ecell_in y0
              clear gs ga OS th hown7 htri hB7 gl O7 T7 B7
              have r1 : (0 : Int) ≤ ((m + 1 : Nat) : Int) - 1 := by omega
              have r2 : ((m + 1 : Nat) : Int) - 1 < ((O.length + 1 : Nat) : Int) := by omega
              have r3 : (((m + 1 : Nat) : Int) - 1).toNat = m := by omega
              go_wp2_with (refine tm_store (by rfl) (.tmp 126) (.tmp 125) (by rfl) (by rfl) g6 ((m + 1) * 3) Y (by rfl) (by rfl) HTH.out ?_)
              go_roundw
              case rel => exact ⟨m, Y, by omega, by omega, by go_num, HOS.out, TS.out, BS.out⟩
              case measure => simp [intOf]
            · obtain rfl : j = k := by omega
              have th := own_there3 hown7 j (by omega)
              have OS := own_set3 hown7 j (by rw [gl]; omega) (T1, T2, T3)
              rw [gap_fill hjO] at OS
              have gl2 := gap_len O (T1, T2, T3) j hjO
              have NX := Lib.hid (And.intro (show (wj.setCells g6 (j * 3) (encT (T1, T2, T3))).ownsRow w3.heap.size 44 3 (.slice (some ⟨g6, 0, none⟩) (O.length + 1) cap6) (O.take j ++ (T1, T2, T3) :: O.drop j).length (prt (O.take j ++ (T1, T2, T3) :: O.drop j)) by rw [gl2]; exact OS) (hB7.trans (blw_cells G6.out.1 (encT (T1, T2, T3)) (j * 3) wj)))
              obtain ⟨y0, y1, y2⟩ := htri
              have HTH := Lib.hid th
              have yl := ecell_in y0
              dsimp only at y0 y1 y2
              have kO : j < O.length + 1 := by omega
              clear OS th hown7 hB7 gl gl2 O7 T7 B7 hj hkj
              go_wp2_with (refine tm_store (by rfl) (.tmp 130) (.tmp 129) (by rfl) (by rfl) g6 (j * 3) (T1, T2, T3) (by rfl) (by rfl) HTH.out ?_)
              go_roundw
              case rel => exact ⟨i + 1, by omega, by go_num, ⟨_, BI.out, NX.out.1⟩, NX.out.2⟩
              case measure => simp [intOf]; omega
        · have ei : i = p.length := by omega
          rw [ei] at hO
          have eO := PE.out O hO
          have ZZ := Lib.hid (And.intro (own_tms hown) (And.intro (B3.out.trans (hB.mono B3.out.size)) (fun g hg => And.intro (Nat.le_trans B3.out.size (hown.lt g hg).1) (hown.lt g hg).2)))
          rw [eO] at ZZ
          clear hO eO ei hown hB HOw HBI
          go_wp2
          go_ret
          exact ⟨_, rfl, ZZ.out.1, ZZ.out.2.1, ZZ.out.2.2⟩
theorem refBtw_any (a : Int) (l : List (Int × Int)) (v : Value) (e : Evt) (s : Evs) (fr t : Int) (w : World) (hz : ZoneIn w v a l) (hf : Zo.zf a l = 0) (hv : EvB w e s) (h : evF e = 0) (o1 : -1000000000 ≤ fr) (o2 : fr ≤ 1000000000) (o3 : -1000000000 ≤ t) (o4 : t ≤ 1000000000) :
    Calls Tryz.prog 47 #[v, .agg (ecells e s), .int .i64 fr, .int .i64 t] w (RbA a l e fr t w) :=
  (refBtw_own a l v e s fr t w hz hf hv h o1 o2 o3 o4).mono fun _ _ ⟨u, h1, h2, h3, _⟩ => ⟨u, h1, h2, h3⟩
end Go.Proofs.YtoncfgfjdlgfcaaGreatDoor
