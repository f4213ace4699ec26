/-
  What is proved here: the walk of chimelaw2.PlanFits: it returns true for every two zones, lists of events and three numbers, and turns nothing that was there; the table of months, and what slices.SortFunc does, are asked as premises.
-/
import Derived.Test.YtoncfgfjdlgfcaaGreatDoorPF
import Derived.Test.YtoncfgfjdlgfcaaGreatDoorTiApp
import Derived.Deep.Cut
import Derived.Deep.CutRange
import Derived.BigQuiet
namespace Go.Proofs.YtoncfgfjdlgfcaaGreatDoor.Pp
open Go.RowKit Bz Cal Txt

/-- Two zones in boxes. -/
theorem zz_boxes (w : World) (a : Int) (l : List (Int × Int)) (sa : Option Addr) (sc : Nat) (b : Int) (m : List (Int × Int)) (sb : Option Addr) (sd : Nat) : ∃ W, W = (w.alloc (.cells #[.int .i64 a, .slice sa l.length sc] 24)).alloc (.cells #[.int .i64 b, .slice sb m.length sd] 24) ∧ Below w.heap.size w W ∧ ZBx W w.heap.size a (.slice sa l.length sc) ∧ ZBx W (w.heap.size + 1) b (.slice sb m.length sd) := by
  obtain ⟨W1, hW1⟩ : ∃ W1, W1 = w.alloc (.cells #[.int .i64 a, .slice sa l.length sc] 24) := ⟨_, rfl⟩
  have g0 : ZBx W1 w.heap.size a (.slice sa l.length sc) := by rw [hW1]; constructor <;> simp
  have z1 : W1.heap.size = w.heap.size + 1 := by rw [hW1, World.size_alloc]
  have b1 : Below w.heap.size w W1 := by rw [hW1]; exact (Below.refl _ _).alloc (Nat.le_refl _) _
  have g1 : ZBx (W1.alloc (.cells #[.int .i64 b, .slice sb m.length sd] 24)) (w.heap.size + 1) b (.slice sb m.length sd) := by rw [← z1]; constructor <;> simp
  exact ⟨_, by rw [hW1], b1.alloc b1.size _, g0.on ((Below.refl _ _).alloc (Nat.le_refl _) _), g1⟩
theorem bel_dn {n0 : Nat} {w W : World} (h : Below n0 w W) (n : Nat) : Below n0 w (W.drewN n) := ⟨h.os, h.tape, h.output, h.size, h.block⟩
theorem tm_in {l : List Tm} {k : Nat} (h : k < l.length) : l.getD k (0, 0, 0) ∈ l := by rw [List.getD_eq_getElem?_getD, List.getElem?_eq_getElem h]; exact List.getElem_mem h
/-- One of two. -/
abbrev tw {α : Type} (x y : α) : Nat → α
  | 0 => x
  | _ => y
set_option maxRecDepth 100000 in
set_option maxHeartbeats 8000000 in
theorem pfits (hS : SrtH) (a : Int) (l : List (Int × Int)) (v : Value) (L : List (Evt × Evs)) (vl : Value) (b : Int) (m : List (Int × Int)) (v2 : Value) (M : List (Evt × Evs)) (vm : Value) (fr t len : Int) (w : World)
    (hz : ZoneIn w v a l) (hL : Evl w vl L) (hl : L.length ≤ 9223372036854775807) (hy : ZoneIn w v2 b m) (hM : Evl w vm M) (hm : M.length ≤ 9223372036854775807) (hT : Tab w) :
    Calls Tryz.prog 3 #[v, vl, v2, vm, .int .i64 fr, .int .i64 t, .int .i64 len] w fun x w' => x = .returned (.bool true) ∧ Below w.heap.size w w' := by
  have HS := Lib.hid hS
  have HZ := Lib.hid (fun W (q : Below w.heap.size w W) => hz.on q)
  have HY := Lib.hid (fun W (q : Below w.heap.size w W) => hy.on q)
  have HL := Lib.hid (fun W (q : Below w.heap.size w W) => hL.on q)
  have HM := Lib.hid (fun W (q : Below w.heap.size w W) => hM.on q)
  have HT := Lib.hid (fun W (q : Below w.heap.size w W) => hT.below q)
  obtain ⟨sa, sc, rfl⟩ := hz.form
  obtain ⟨sb, sd, rfl⟩ := hy.form
  obtain ⟨ae, ce, rfl⟩ := hL.form
  obtain ⟨af, cf, rfl⟩ := hM.form
  obtain ⟨W2, hW, B0, Z0, Y0⟩ := zz_boxes w a l sa sc b m sb sd
  have HW := Lib.hid hW
  have HB := Lib.hid B0
  have HX := Lib.hid Z0
  have HU := Lib.hid Y0
  have OC : Hid ((ecells evA nil8).all (fun x => x.oneCell') = true) := Lib.hid (by simp [Value.oneCell'])
  clear hS hz hy hL hM hT hW B0 Z0 Y0
  go_enter Tryz.func3, Tryz.ntmps3
  go_upto_region 1 with fail
  rw [← HW.out]
  clear HW
  go_upto_region 2 with (refine ev_store ?h1 (.tmp 15) (.tmp 28) ?h2 W2.heap.size _ _ ?h3 rfl evA nil8 ?h4 ?h5 ?h6 ?h7; (case h1 => rfl); (case h2 => rfl); (case h3 => rfl); (case h4 => exact OC.out); (case h5 => rfl); (case h6 => rfl); intro W3 r3 b3; have Q3 := Lib.hid (And.intro r3 b3); clear r3 b3)
  have B3 := Lib.hid (HB.out.trans (Q3.out.2.mono HB.out.size))
  have X3 := Lib.hid (HX.out.on Q3.out.2)
  have U3 := Lib.hid (HU.out.on Q3.out.2)
  have E3 := Lib.hid Q3.out.1.1
  clear HX HU HB Q3 OC
  go_wp2_with (first | (refine ev_load (by rfl) (.tmp 15) (by rfl) W2.heap.size evA nil8 (by rfl) (E3.out.on (below_one _ _)) ?_) | (refine ev_build1 (by rfl) (.tmp 32) (by rfl) (some 33) (by rfl) evA nil8 (by rfl) (evA_nil _) ?_; intro W4 r4 b4; have Q4 := Lib.hid (And.intro r4 b4); clear r4 b4))
  have QA : Hid (Below W3.heap.size W3 W4) := Lib.hid ((below_one W3 _).trans (Q4.out.2.mono (below_one W3 _).size))
  have q41 := Q4.out.1
  rw [World.size_alloc] at q41
  have zs1 : W3.heap.size < (W3.alloc (.cells #[.int .i64 0, .slice none 0 0] 24)).heap.size := by rw [World.size_alloc]; omega
  have zc0 : W4.cell? ⟨W3.heap.size, 0, none⟩ = some (.int .i64 0) := (Q4.out.2.cell (p := ⟨W3.heap.size, 0, none⟩) zs1).trans (by simp)
  have zc1 : W4.cell? ⟨W3.heap.size, 1, none⟩ = some (.slice none 0 0) := (Q4.out.2.cell (p := ⟨W3.heap.size, 1, none⟩) zs1).trans (by simp)
  have zl3 : W3.heap.size < W4.heap.size := cell_in zc0
  have bM := below_one W4 (.cells #[.slice (some ⟨W3.heap.size + 1, 0, none⟩) 1 1] 25)
  have B4 := Lib.hid ((B3.out.trans (QA.out.mono B3.out.size)).trans (bM.mono (B3.out.trans (QA.out.mono B3.out.size)).size))
  have X4 := Lib.hid ((X3.out.on QA.out).on bM)
  have U4 := Lib.hid ((U3.out.on QA.out).on bM)
  have K := meet_any HS.out 1 (by decide) (fun _ => 0) (fun _ => []) (fun _ => (none, 0, 0)) (fun _ => (some ⟨W3.heap.size + 1, 0, none⟩, 1, 1)) (fun _ => [(evA, nil8)]) W3.heap.size 0 W4.heap.size 0 90 300 30 _
    (fun i hi => by obtain rfl : i = 0 := by omega
                    exact ⟨(bM.cell (p := ⟨W3.heap.size, 0, none⟩) zl3).trans zc0, (bM.cell (p := ⟨W3.heap.size, 1, none⟩) zl3).trans zc1⟩)
    (fun i hi => by obtain rfl : i = 0 := by omega
                    simp) (fun i _ => zone_nil _ 0) (fun i _ => q41.on bM) (fun i _ => by simp) (HT.out _ B4.out)
  rw [(evA_meet nil8).1, (evA_meet nil8).2] at K
  clear q41 zs1 zl3 zc0 zc1 bM QA Q4 E3 X3 U3 B3
  refine K.mono ?_
  clear K
  rintro x w5 ⟨rfl, hb5⟩
  have B5 := Lib.hid (B4.out.trans (hb5.mono B4.out.size))
  have X5 := Lib.hid (X4.out.on hb5)
  have U5 := Lib.hid (U4.out.on hb5)
  rw [fault_zero rfl]
  clear hb5 B4 X4 U4
  obtain ⟨z0, z1⟩ := X5.out
  obtain ⟨y0, y1⟩ := U5.out
  have zl := cell_in z0
  have yl := cell_in y0
  go_wp2_with fail
  clear z0 z1 y0 y1 zl yl
  have n1 := below_one w5 (.cells #[.int .i64 a, .slice sa l.length sc, .int .i64 b, .slice sb m.length sd] 24)
  have k0 : ∀ j v, ([.int .i64 a, .slice sa l.length sc, .int .i64 b, .slice sb m.length sd] : List Value)[j]? = some v → (w5.alloc (.cells #[.int .i64 a, .slice sa l.length sc, .int .i64 b, .slice sb m.length sd] 24)).cell? ⟨w5.heap.size, j, none⟩ = some v := fun j v hv => by
    simp only [World.cell?, heap_alloc_new w5 (.cells #[.int .i64 a, .slice sa l.length sc, .int .i64 b, .slice sb m.length sd] 24)]
    simpa using hv
  have s6 : (w5.alloc (.cells #[.int .i64 a, .slice sa l.length sc, .int .i64 b, .slice sb m.length sd] 24)).heap.size = w5.heap.size + 1 := World.size_alloc _ _
  obtain ⟨W6, hW6⟩ : ∃ W6, W6 = w5.alloc (.cells #[.int .i64 a, .slice sa l.length sc, .int .i64 b, .slice sb m.length sd] 24) := ⟨_, rfl⟩
  rw [← hW6] at n1 k0 s6 ⊢
  have n2 := below_one W6 (.cells #[.slice ae L.length ce, .slice af M.length cf] 25)
  have k2 : ∀ j v, ([.slice ae L.length ce, .slice af M.length cf] : List Value)[j]? = some v → (W6.alloc (.cells #[.slice ae L.length ce, .slice af M.length cf] 25)).cell? ⟨W6.heap.size, j, none⟩ = some v := fun j v hv => by
    simp only [World.cell?, heap_alloc_new W6 (.cells #[.slice ae L.length ce, .slice af M.length cf] 25)]
    simpa using hv
  obtain ⟨W7, hW7⟩ : ∃ W7, W7 = W6.alloc (.cells #[.slice ae L.length ce, .slice af M.length cf] 25) := ⟨_, rfl⟩
  rw [← hW7] at n2 k2 ⊢
  rw [s6] at k2
  have k3 : ∀ j v, ([.int .i64 a, .slice sa l.length sc, .int .i64 b, .slice sb m.length sd] : List Value)[j]? = some v → W7.cell? ⟨w5.heap.size, j, none⟩ = some v := fun j v hv => (n2.cell (p := ⟨w5.heap.size, j, none⟩) (by show w5.heap.size < _; omega)).trans (k0 j v hv)
  have n12 := n1.trans (n2.mono n1.size)
  have B7 := Lib.hid (B5.out.trans (n12.mono B5.out.size))
  have X7 := Lib.hid (X5.out.on n12)
  have U7 := Lib.hid (U5.out.on n12)
  have K := meet_any HS.out 2 (by decide) (tw a b) (tw l m) (tw (sa, l.length, sc) (sb, m.length, sd)) (tw (ae, L.length, ce) (af, M.length, cf)) (tw L M) w5.heap.size 0 (w5.heap.size + 1) 0 fr t len W7
    (fun i hi => by
      rcases (by omega : i = 0 ∨ i = 1) with rfl | rfl
      · exact ⟨k3 0 _ rfl, k3 1 _ rfl⟩
      · exact ⟨k3 2 _ rfl, k3 3 _ rfl⟩)
    (fun i hi => by
      rcases (by omega : i = 0 ∨ i = 1) with rfl | rfl
      · exact k2 0 _ rfl
      · exact k2 1 _ rfl)
    (fun i hi => by
      rcases (by omega : i = 0 ∨ i = 1) with rfl | rfl
      · exact HZ.out _ B7.out
      · exact HY.out _ B7.out)
    (fun i hi => by
      rcases (by omega : i = 0 ∨ i = 1) with rfl | rfl
      · exact HL.out _ B7.out
      · exact HM.out _ B7.out)
    (fun i hi => by
      rcases (by omega : i = 0 ∨ i = 1) with rfl | rfl
      · exact hl
      · exact hm) (HT.out _ B7.out)
  have FO := Lib.hid (fun h i hi => fit_one (za := tw a b) (zl := tw l m) (Ls := tw L M) (n := 2) (fr := fr) (t := t) (len := len) h i hi)
  have FR := Lib.hid (fun h => me_free (BL := fun i => bsL (tw a b i) (tw l m i) fr t (tw L M i)) (BF := fun i => bsF (tw a b i) (tw l m i) fr t (tw L M i)) (n := 2) (fr := fr) (t := t) (len := len) h)
  generalize meF (fun i => bsL (tw a b i) (tw l m i) fr t (tw L M i)) (fun i => bsF (tw a b i) (tw l m i) fr t (tw L M i)) 2 fr t len = F at K FO FR
  generalize meT (fun i => bsL (tw a b i) (tw l m i) fr t (tw L M i)) (fun i => bsF (tw a b i) (tw l m i) fr t (tw L M i)) 2 fr t len = T at K FO FR
  clear n1 n2 k0 k2 k3 s6 hW6 hW7 n12 X5 U5 B5
  refine K.mono ?_
  clear K
  rintro x w8 ⟨rfl, hb8⟩
  have B8 := Lib.hid (B7.out.trans (hb8.mono B7.out.size))
  have X8 := Lib.hid (X7.out.on hb8)
  have U8 := Lib.hid (U7.out.on hb8)
  clear hb8 B7 X7 U7
  by_cases hF : F = 0
  case neg =>
    rw [fault_not hF]
    clear FO FR hF
    go_wp2_with fail
    go_ret
    exact ⟨rfl, B8.out⟩
  obtain ⟨⟨l1, l2⟩, ⟨t1, t2⟩, ⟨r1, r2⟩, _⟩ := FR.out hF
  have P0 := Lib.hid (FO.out hF 0 (by decide))
  have P1 := Lib.hid (FO.out hF 1 (by decide))
  rw [fault_zero hF]
  clear FO FR hF
  as_aux_lemma =>
  -- LOOPS
  go_wp2_with fail
  have S1 := Lib.hid (Below.refl w8.heap.size w8)
  go_loopw [20, 21, 22, 23] (fun iv _ _ _ wr => ∃ k : Nat, k ≤ L.length ∧ iv = .int .i64 k ∧ Below w8.heap.size w8 wr) (fun iv _ _ _ _ => L.length - (intOf iv).toNat)
  case atStart => exact ⟨0, Nat.zero_le _, rfl, S1.out⟩
  case round =>
    obtain ⟨k, hk, rfl, hB⟩ := hrel
    have HBr := Lib.hid hB
    by_cases hlt : k < L.length
    case neg =>
      as_aux_lemma =>
      obtain ⟨w9, hw9⟩ : ∃ w9, w9 = wr := ⟨_, rfl⟩
      subst hw9
      have B9 := Lib.hid (B8.out.trans (hB.mono B8.out.size))
      have U9 := Lib.hid (U8.out.on hB)
      clear hB HBr U8 X8 P0 B8
      go_wp2_with fail
      have S2 := Lib.hid (Below.refl w9.heap.size w9)
      go_loopw [24, 25, 26, 27] (fun iv _ _ _ wr => ∃ k : Nat, k ≤ M.length ∧ iv = .int .i64 k ∧ Below w9.heap.size w9 wr) (fun iv _ _ _ _ => M.length - (intOf iv).toNat)
      case atStart => exact ⟨0, Nat.zero_le _, rfl, S2.out⟩
      case round =>
        obtain ⟨k, hk, rfl, hB⟩ := hrel
        have HBr := Lib.hid hB
        by_cases hlt : k < M.length
        case neg =>
          have B99 := Lib.hid (B9.out.trans (hB.mono B9.out.size))
          clear hB
          go_wp2_with fail
          go_ret
          exact ⟨rfl, B99.out⟩
        have bw := B9.out.trans (hB.mono B9.out.size)
        have BW := Lib.hid bw
        obtain ⟨bq, off, ea, _, bl, hr, hE⟩ := evl_at (HM.out _ bw) hlt
        subst ea
        have MX : M[k] ∈ M := List.getElem_mem hlt
        have PX := Lib.hid (P1.out _ MX)
        generalize M[k] = X at hr hE PX
        obtain ⟨e, s⟩ := X
        dsimp only at hE PX
        have HS9 : Hid (∀ X, Below wr.heap.size wr X → (X.cell? ⟨w.heap.size + 1, 0, none⟩ = some (.int .i64 b) ∧ X.cell? ⟨w.heap.size + 1, 1, none⟩ = some (.slice sb m.length sd)) ∧ (X.cell? ⟨bq, off + k * 17, none⟩ = some (.string e.name) ∧ X.cell? ⟨bq, off + k * 17 + 1, none⟩ = some (.string e.text) ∧ X.cell? ⟨bq, off + k * 17 + 2, none⟩ = some (.int .i64 e.start) ∧ X.cell? ⟨bq, off + k * 17 + 3, none⟩ = some (.int .i64 e.len) ∧ X.cell? ⟨bq, off + k * 17 + 4, none⟩ = some (.bool e.rep) ∧ X.cell? ⟨bq, off + k * 17 + 5, none⟩ = some (.int .i64 e.rule.freq) ∧ X.cell? ⟨bq, off + k * 17 + 6, none⟩ = some (.int .i64 e.rule.every) ∧ X.cell? ⟨bq, off + k * 17 + 7, none⟩ = some (.int .i64 e.rule.count) ∧ X.cell? ⟨bq, off + k * 17 + 8, none⟩ = some (.int .i64 e.rule.till) ∧ X.cell? ⟨bq, off + k * 17 + 9, none⟩ = some (s.vm) ∧ X.cell? ⟨bq, off + k * 17 + 10, none⟩ = some (s.vd) ∧ X.cell? ⟨bq, off + k * 17 + 11, none⟩ = some (s.vw) ∧ X.cell? ⟨bq, off + k * 17 + 12, none⟩ = some (s.vp) ∧ X.cell? ⟨bq, off + k * 17 + 13, none⟩ = some (s.vo) ∧ X.cell? ⟨bq, off + k * 17 + 14, none⟩ = some (s.vn) ∧ X.cell? ⟨bq, off + k * 17 + 15, none⟩ = some (s.vc) ∧ X.cell? ⟨bq, off + k * 17 + 16, none⟩ = some (s.va))) := Lib.hid (fun X q => by
          have rg : ∀ j v, (encE (e, s))[j]? = some v → X.cell? ⟨bq, off + k * 17 + j, none⟩ = some v := fun j v hj => (q.cell (p := ⟨bq, off + k * 17 + j, none⟩) bl).trans (hr j v hj)
          exact ⟨U9.out.on (hB.trans (q.mono hB.size)), rg 0 _ rfl, rg 1 _ rfl, rg 2 _ rfl, rg 3 _ rfl, rg 4 _ rfl, rg 5 _ rfl, rg 6 _ rfl, rg 7 _ rfl, rg 8 _ rfl, rg 9 _ rfl, rg 10 _ rfl, rg 11 _ rfl, rg 12 _ rfl, rg 13 _ rfl, rg 14 _ rfl, rg 15 _ rfl, rg 16 _ rfl⟩)
        have KB : Hid (∀ W, Below wr.heap.size wr W → Calls Tryz.prog 8 #[.agg #[.int .i64 b, .slice sb m.length sd], .agg (ecells e s), .int .i64 fr, .int .i64 t] W (TbA W (tbL b m e fr t) (tbF b m e fr t))) := Lib.hid (fun W q => by
          have bq := BW.out.trans (q.mono BW.out.size)
          exact tbetween_any b m _ e s fr t W (HY.out _ bq) (hE.on q) (HT.out _ bq))
        have LL := tb_few2 (a := b) (l := m) (e := e) (fr := fr) (t := t)
        have PX0 : Hid (tbF b m e fr t = 0) := Lib.hid PX.out.1
        have PX1 : Hid (∀ y ∈ tbL b m e fr t, ¬ (y.2.1 < T + len ∧ T < y.2.2 ∧ y.2.1 < y.2.2)) := Lib.hid PX.out.2
        rw [PX0.out] at KB
        generalize tbL b m e fr t = TL at KB PX1 LL
        clear PX PX0 hr hE MX hB bw
        go_upto_region 22 with fail
        go_region_held3 (fun X => (X.cell? ⟨w.heap.size + 1, 0, none⟩ = some (.int .i64 b) ∧ X.cell? ⟨w.heap.size + 1, 1, none⟩ = some (.slice sb m.length sd)) ∧ (X.cell? ⟨bq, off + k * 17, none⟩ = some (.string e.name) ∧ X.cell? ⟨bq, off + k * 17 + 1, none⟩ = some (.string e.text) ∧ X.cell? ⟨bq, off + k * 17 + 2, none⟩ = some (.int .i64 e.start) ∧ X.cell? ⟨bq, off + k * 17 + 3, none⟩ = some (.int .i64 e.len) ∧ X.cell? ⟨bq, off + k * 17 + 4, none⟩ = some (.bool e.rep) ∧ X.cell? ⟨bq, off + k * 17 + 5, none⟩ = some (.int .i64 e.rule.freq) ∧ X.cell? ⟨bq, off + k * 17 + 6, none⟩ = some (.int .i64 e.rule.every) ∧ X.cell? ⟨bq, off + k * 17 + 7, none⟩ = some (.int .i64 e.rule.count) ∧ X.cell? ⟨bq, off + k * 17 + 8, none⟩ = some (.int .i64 e.rule.till) ∧ X.cell? ⟨bq, off + k * 17 + 9, none⟩ = some (s.vm) ∧ X.cell? ⟨bq, off + k * 17 + 10, none⟩ = some (s.vd) ∧ X.cell? ⟨bq, off + k * 17 + 11, none⟩ = some (s.vw) ∧ X.cell? ⟨bq, off + k * 17 + 12, none⟩ = some (s.vp) ∧ X.cell? ⟨bq, off + k * 17 + 13, none⟩ = some (s.vo) ∧ X.cell? ⟨bq, off + k * 17 + 14, none⟩ = some (s.vn) ∧ X.cell? ⟨bq, off + k * 17 + 15, none⟩ = some (s.vc) ∧ X.cell? ⟨bq, off + k * 17 + 16, none⟩ = some (s.va)))
          (first | exact HS9.out _ (Below.drew (Below.refl _ wr)) | exact HS9.out _ hb3)
          (first | (go_at_call 8; refine (KB.out _ (Below.drew (Below.refl _ wr))).mono ?_; rintro y w3 ⟨u3, rfl, hr3, hb3', _⟩; have hb3 : Below wr.heap.size wr w3 := Below.trans (Below.drew (Below.refl _ wr)) hb3'; clear hb3'))
        rename_i hHeld
        clear hHeld
        obtain ⟨ta, tc, rfl, ht⟩ := hr3
        have HTm := Lib.hid ht
        have B3 := Lib.hid (HBr.out.trans (hb3.mono HBr.out.size))
        clear hb3 ht HS9 KB HBr BW bl
        rw [efault_0]
        as_aux_lemma =>
        go_wp2_with fail
        have T0 := Lib.hid (Below.refl w3.heap.size w3)
        go_loopw [27] (fun jv wr => ∃ j : Nat, j ≤ TL.length ∧ jv = .int .i64 j ∧ Below w3.heap.size w3 wr) (fun jv _ => TL.length - (intOf jv).toNat)
        case atStart => exact ⟨0, Nat.zero_le _, rfl, T0.out⟩
        case round =>
          obtain ⟨j, hj, rfl, hBx⟩ := hrel
          have HBx := Lib.hid hBx
          by_cases hlj : j < TL.length
          case neg =>
            have NX := Lib.hid (B3.out.trans (hBx.mono B3.out.size))
            clear hBx
            go_wp2_with fail
            go_roundw
            case rel => exact ⟨k + 1, by omega, by go_num, NX.out⟩
            case measure => simp [intOf]; omega
          rcases HTm.out with hc | ⟨tb, tof, rfl, hc⟩
          · rw [hc] at hlj; simp at hlj
          obtain ⟨y0, y1, y2⟩ := hc j hlj
          have q1 := (hBx.cell (p := ⟨tb, tof + j * 3 + 1, none⟩) (ecell_in y0)).trans y1
          have q2 := (hBx.cell (p := ⟨tb, tof + j * 3 + 2, none⟩) (ecell_in y0)).trans y2
          have ql := ecell_in q1
          have PY := PX1.out _ (tm_in hlj)
          generalize TL.getD j (0, 0, 0) = Y at q1 q2 PY
          clear y0 y1 y2 hc hBx
          by_cases c1 : Y.2.1 < T + len
          case neg =>
            have d1 : decide (Y.2.1 < T + len) = false := decide_eq_false c1
            go_wp2_with fail
            go_quiet (fail)
            go_wp2
            go_roundw
            case rel => exact ⟨j + 1, by omega, by go_num, bel_dn HBx.out _⟩
            case measure => simp [intOf]; omega
          by_cases c2 : T < Y.2.2
          case neg =>
            have d1 : decide (Y.2.1 < T + len) = true := decide_eq_true c1
            have d2 : decide (T < Y.2.2) = false := decide_eq_false c2
            have d3 : decide (Y.2.2 > T) = false := decide_eq_false c2
            go_wp2_with fail
            go_quiet (fail)
            go_wp2
            go_roundw
            case rel => exact ⟨j + 1, by omega, by go_num, bel_dn HBx.out _⟩
            case measure => simp [intOf]; omega
          have c3 : ¬ Y.2.1 < Y.2.2 := fun q => PY ⟨c1, c2, q⟩
          have d1 : decide (Y.2.1 < T + len) = true := decide_eq_true c1
          have d2 : decide (T < Y.2.2) = true := decide_eq_true c2
          have d3 : decide (Y.2.2 > T) = true := decide_eq_true c2
          have d4 : decide (Y.2.1 < Y.2.2) = false := decide_eq_false c3
          have d5 : decide (Y.2.2 > Y.2.1) = false := decide_eq_false c3
          go_wp2_with fail
          go_quiet (fail)
          go_wp2
          go_roundw
          case rel => exact ⟨j + 1, by omega, by go_num, bel_dn HBx.out _⟩
          case measure => simp [intOf]; omega
    have bw := B8.out.trans (hB.mono B8.out.size)
    have BW := Lib.hid bw
    obtain ⟨bq, off, ea, _, bl, hr, hE⟩ := evl_at (HL.out _ bw) hlt
    subst ea
    have MX : L[k] ∈ L := List.getElem_mem hlt
    have PX := Lib.hid (P0.out _ MX)
    generalize L[k] = X at hr hE PX
    obtain ⟨e, s⟩ := X
    dsimp only at hE PX
    have HS9 : Hid (∀ X, Below wr.heap.size wr X → (X.cell? ⟨w.heap.size, 0, none⟩ = some (.int .i64 a) ∧ X.cell? ⟨w.heap.size, 1, none⟩ = some (.slice sa l.length sc)) ∧ (X.cell? ⟨bq, off + k * 17, none⟩ = some (.string e.name) ∧ X.cell? ⟨bq, off + k * 17 + 1, none⟩ = some (.string e.text) ∧ X.cell? ⟨bq, off + k * 17 + 2, none⟩ = some (.int .i64 e.start) ∧ X.cell? ⟨bq, off + k * 17 + 3, none⟩ = some (.int .i64 e.len) ∧ X.cell? ⟨bq, off + k * 17 + 4, none⟩ = some (.bool e.rep) ∧ X.cell? ⟨bq, off + k * 17 + 5, none⟩ = some (.int .i64 e.rule.freq) ∧ X.cell? ⟨bq, off + k * 17 + 6, none⟩ = some (.int .i64 e.rule.every) ∧ X.cell? ⟨bq, off + k * 17 + 7, none⟩ = some (.int .i64 e.rule.count) ∧ X.cell? ⟨bq, off + k * 17 + 8, none⟩ = some (.int .i64 e.rule.till) ∧ X.cell? ⟨bq, off + k * 17 + 9, none⟩ = some (s.vm) ∧ X.cell? ⟨bq, off + k * 17 + 10, none⟩ = some (s.vd) ∧ X.cell? ⟨bq, off + k * 17 + 11, none⟩ = some (s.vw) ∧ X.cell? ⟨bq, off + k * 17 + 12, none⟩ = some (s.vp) ∧ X.cell? ⟨bq, off + k * 17 + 13, none⟩ = some (s.vo) ∧ X.cell? ⟨bq, off + k * 17 + 14, none⟩ = some (s.vn) ∧ X.cell? ⟨bq, off + k * 17 + 15, none⟩ = some (s.vc) ∧ X.cell? ⟨bq, off + k * 17 + 16, none⟩ = some (s.va))) := Lib.hid (fun X q => by
      have rg : ∀ j v, (encE (e, s))[j]? = some v → X.cell? ⟨bq, off + k * 17 + j, none⟩ = some v := fun j v hj => (q.cell (p := ⟨bq, off + k * 17 + j, none⟩) bl).trans (hr j v hj)
      exact ⟨X8.out.on (hB.trans (q.mono hB.size)), rg 0 _ rfl, rg 1 _ rfl, rg 2 _ rfl, rg 3 _ rfl, rg 4 _ rfl, rg 5 _ rfl, rg 6 _ rfl, rg 7 _ rfl, rg 8 _ rfl, rg 9 _ rfl, rg 10 _ rfl, rg 11 _ rfl, rg 12 _ rfl, rg 13 _ rfl, rg 14 _ rfl, rg 15 _ rfl, rg 16 _ rfl⟩)
    have KB : Hid (∀ W, Below wr.heap.size wr W → Calls Tryz.prog 8 #[.agg #[.int .i64 a, .slice sa l.length sc], .agg (ecells e s), .int .i64 fr, .int .i64 t] W (TbA W (tbL a l e fr t) (tbF a l e fr t))) := Lib.hid (fun W q => by
      have bq := BW.out.trans (q.mono BW.out.size)
      exact tbetween_any a l _ e s fr t W (HZ.out _ bq) (hE.on q) (HT.out _ bq))
    have LL := tb_few2 (a := a) (l := l) (e := e) (fr := fr) (t := t)
    have PX0 : Hid (tbF a l e fr t = 0) := Lib.hid PX.out.1
    have PX1 : Hid (∀ y ∈ tbL a l e fr t, ¬ (y.2.1 < T + len ∧ T < y.2.2 ∧ y.2.1 < y.2.2)) := Lib.hid PX.out.2
    rw [PX0.out] at KB
    generalize tbL a l e fr t = TL at KB PX1 LL
    clear PX PX0 hr hE MX hB bw
    go_upto_region 13 with fail
    go_region_held3 (fun X => (X.cell? ⟨w.heap.size, 0, none⟩ = some (.int .i64 a) ∧ X.cell? ⟨w.heap.size, 1, none⟩ = some (.slice sa l.length sc)) ∧ (X.cell? ⟨bq, off + k * 17, none⟩ = some (.string e.name) ∧ X.cell? ⟨bq, off + k * 17 + 1, none⟩ = some (.string e.text) ∧ X.cell? ⟨bq, off + k * 17 + 2, none⟩ = some (.int .i64 e.start) ∧ X.cell? ⟨bq, off + k * 17 + 3, none⟩ = some (.int .i64 e.len) ∧ X.cell? ⟨bq, off + k * 17 + 4, none⟩ = some (.bool e.rep) ∧ X.cell? ⟨bq, off + k * 17 + 5, none⟩ = some (.int .i64 e.rule.freq) ∧ X.cell? ⟨bq, off + k * 17 + 6, none⟩ = some (.int .i64 e.rule.every) ∧ X.cell? ⟨bq, off + k * 17 + 7, none⟩ = some (.int .i64 e.rule.count) ∧ X.cell? ⟨bq, off + k * 17 + 8, none⟩ = some (.int .i64 e.rule.till) ∧ X.cell? ⟨bq, off + k * 17 + 9, none⟩ = some (s.vm) ∧ X.cell? ⟨bq, off + k * 17 + 10, none⟩ = some (s.vd) ∧ X.cell? ⟨bq, off + k * 17 + 11, none⟩ = some (s.vw) ∧ X.cell? ⟨bq, off + k * 17 + 12, none⟩ = some (s.vp) ∧ X.cell? ⟨bq, off + k * 17 + 13, none⟩ = some (s.vo) ∧ X.cell? ⟨bq, off + k * 17 + 14, none⟩ = some (s.vn) ∧ X.cell? ⟨bq, off + k * 17 + 15, none⟩ = some (s.vc) ∧ X.cell? ⟨bq, off + k * 17 + 16, none⟩ = some (s.va)))
      (first | exact HS9.out _ (Below.drew (Below.refl _ wr)) | exact HS9.out _ hb3)
      (first | (go_at_call 8; refine (KB.out _ (Below.drew (Below.refl _ wr))).mono ?_; rintro y w3 ⟨u3, rfl, hr3, hb3', _⟩; have hb3 : Below wr.heap.size wr w3 := Below.trans (Below.drew (Below.refl _ wr)) hb3'; clear hb3'))
    rename_i hHeld
    clear hHeld
    obtain ⟨ta, tc, rfl, ht⟩ := hr3
    have HTm := Lib.hid ht
    have B3 := Lib.hid (HBr.out.trans (hb3.mono HBr.out.size))
    clear hb3 ht HS9 KB HBr BW bl
    rw [efault_0]
    as_aux_lemma =>
    go_wp2_with fail
    have T0 := Lib.hid (Below.refl w3.heap.size w3)
    go_loopw [23] (fun jv wr => ∃ j : Nat, j ≤ TL.length ∧ jv = .int .i64 j ∧ Below w3.heap.size w3 wr) (fun jv _ => TL.length - (intOf jv).toNat)
    case atStart => exact ⟨0, Nat.zero_le _, rfl, T0.out⟩
    case round =>
      obtain ⟨j, hj, rfl, hBx⟩ := hrel
      have HBx := Lib.hid hBx
      by_cases hlj : j < TL.length
      case neg =>
        have NX := Lib.hid (B3.out.trans (hBx.mono B3.out.size))
        clear hBx
        go_wp2_with fail
        go_roundw
        case rel => exact ⟨k + 1, by omega, by go_num, NX.out⟩
        case measure => simp [intOf]; omega
      rcases HTm.out with hc | ⟨tb, tof, rfl, hc⟩
      · rw [hc] at hlj; simp at hlj
      obtain ⟨y0, y1, y2⟩ := hc j hlj
      have q1 := (hBx.cell (p := ⟨tb, tof + j * 3 + 1, none⟩) (ecell_in y0)).trans y1
      have q2 := (hBx.cell (p := ⟨tb, tof + j * 3 + 2, none⟩) (ecell_in y0)).trans y2
      have ql := ecell_in q1
      have PY := PX1.out _ (tm_in hlj)
      generalize TL.getD j (0, 0, 0) = Y at q1 q2 PY
      clear y0 y1 y2 hc hBx
      by_cases c1 : Y.2.1 < T + len
      case neg =>
        have d1 : decide (Y.2.1 < T + len) = false := decide_eq_false c1
        go_wp2_with fail
        go_quiet (fail)
        go_wp2
        go_roundw
        case rel => exact ⟨j + 1, by omega, by go_num, bel_dn HBx.out _⟩
        case measure => simp [intOf]; omega
      by_cases c2 : T < Y.2.2
      case neg =>
        have d1 : decide (Y.2.1 < T + len) = true := decide_eq_true c1
        have d2 : decide (T < Y.2.2) = false := decide_eq_false c2
        have d3 : decide (Y.2.2 > T) = false := decide_eq_false c2
        go_wp2_with fail
        go_quiet (fail)
        go_wp2
        go_roundw
        case rel => exact ⟨j + 1, by omega, by go_num, bel_dn HBx.out _⟩
        case measure => simp [intOf]; omega
      have c3 : ¬ Y.2.1 < Y.2.2 := fun q => PY ⟨c1, c2, q⟩
      have d1 : decide (Y.2.1 < T + len) = true := decide_eq_true c1
      have d2 : decide (T < Y.2.2) = true := decide_eq_true c2
      have d3 : decide (Y.2.2 > T) = true := decide_eq_true c2
      have d4 : decide (Y.2.1 < Y.2.2) = false := decide_eq_false c3
      have d5 : decide (Y.2.2 > Y.2.1) = false := decide_eq_false c3
      go_wp2_with fail
      go_quiet (fail)
      go_wp2
      go_roundw
      case rel => exact ⟨j + 1, by omega, by go_num, bel_dn HBx.out _⟩
      case measure => simp [intOf]; omega
end Go.Proofs.YtoncfgfjdlgfcaaGreatDoor.Pp
