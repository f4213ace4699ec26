/-
  What is proved here: what alarm.Rings answers (a contract over the translation).
-/
import Derived.Test.YtdiijpjfkgnjkafGreatDoorCB
namespace Go.Proofs.YtdiijpjfkgnjkafGreatDoor
open Go.RowKit Cal Txt

/-- What is told: rings and a fault. -/
def RaA (nm : ByteArray) (w : World) (l : List Rg) (f : Int) (x : Ending) (w' : World) : Prop := ∃ u, x = .returned (.tuple #[u, fault f]) ∧ Below w.heap.size w w' ∧ w'.ownsRow w.heap.size 41 5 u l.length (l.flatMap (encR nm))
theorem tm_mem4 {l : List Tm} {k : Nat} (h : k < l.length) : l.getD k (0, 0, 0) ∈ l := by rw [List.getD_eq_getElem?_getD, List.getElem?_eq_getElem h]; exact List.getElem_mem h
theorem own_form {nm : ByteArray} {w : World} {n0 n : Nat} {v : Value} {l : List Rg} (h : w.ownsRow n0 41 5 v n (l.flatMap (encR nm))) : ∃ a cap, v = .slice a l.length cap := (own_rowK (enc := encR nm) (k := 5) (fun _ => rfl) (by decide) h).form
theorem own_apt {nm : ByteArray} {w W : World} {n0 n g : Nat} {v : Value} {l : List Rg} (h : w.ownsRow n0 41 5 v n (l.flatMap (encR nm))) (q : Apt g w W) (hg : w.heap.size ≤ g ∨ v.ownBlock ≠ some g) : W.ownsRow n0 41 5 v n (l.flatMap (encR nm)) := by
  refine ⟨h.1, ?_⟩
  rcases h.2 with z | ⟨b, cap, cur, hv, hb, hc, r⟩
  · exact Or.inl z
  · have hlt : b < w.heap.size := by
      rcases Nat.lt_or_ge b w.heap.size with k | k
      · exact k
      · rw [Array.getElem?_eq_none k] at hc; cases hc
    refine Or.inr ⟨b, cap, cur, hv, hb, (q.block b hlt ?_).trans hc, r⟩
    intro e
    subst e
    rcases hg with hg | hg
    · omega
    · rw [hv] at hg; exact hg rfl
theorem app5_any {nm : ByteArray} {w : World} {n0 : Nat} {v vo : Value} {l mo : List Rg} (h : w.ownsRow n0 41 5 v l.length (l.flatMap (encR nm))) (hm : RowK (encR nm) w vo mo) (hn : n0 ≤ w.heap.size) (hl : l.length + mo.length ≤ 1000000000) :
    ∃ v' w', (∀ ty, (Builtin.append_ #[32, 32] ty #[v, vo]).run Tryz.prog w = .ok v' w') ∧ w'.ownsRow n0 41 5 v' (l ++ mo).length ((l ++ mo).flatMap (encR nm)) ∧ Below n0 w w' :=
  appK_any (enc := encR nm) (k := 5) (fun _ => rfl) (by decide) (fun x u hu => by simp [encR] at hu; rcases hu with rfl | rfl | rfl | rfl | rfl <;> rfl) Tryz.underlying32 info_rg rfl (by decide) h hm hn hl
theorem ra_bad {a : Int} {l : List (Int × Int)} {e : Evt} {fr t : Int} (h : ¬ tcF a l e fr t = 0) : raF a l e fr t = tcF a l e fr t ∧ raL a l e fr t = [] := by
  have h1 : raF a l e fr t = tcF a l e fr t := if_pos h
  exact ⟨h1, if_neg (by rw [h1]; exact h)⟩
set_option maxRecDepth 100000 in
set_option maxHeartbeats 8000000 in
theorem rings_any (a : Int) (l : List (Int × Int)) (v : Value) (e : Evt) (s : Evs) (fr t : Int) (w : World) (hz : ZoneIn w v a l) (hv : EvB w e s) (hT : Tab w) :
    Calls Tryz.prog 4 #[v, .agg (ecells e s), .int .i64 fr, .int .i64 t] w (RaA e.name w (raL a l e fr t) (raF a l e fr t)) := by
  have HZ := Lib.hid (fun W (q : Below w.heap.size w W) => hz.on q)
  obtain ⟨sa, sc, rfl⟩ := hz.form
  obtain ⟨W2, hW2, b2, z2, Z2, R2⟩ := two_boxes w a l sa sc e s
  have b3 : Below W2.heap.size W2 (W2.alloc (.cells #[.int .i64 fr] 3)) := (Below.refl _ _).alloc (Nat.le_refl _) _
  have z3 : (W2.alloc (.cells #[.int .i64 fr] 3)).heap.size = w.heap.size + 3 := by rw [World.size_alloc, z2]
  have f3 : (W2.alloc (.cells #[.int .i64 fr] 3)).cell? ⟨w.heap.size + 2, 0, none⟩ = some (.int .i64 fr) := by rw [← z2]; simp
  have b4 : Below (W2.alloc (.cells #[.int .i64 fr] 3)).heap.size (W2.alloc (.cells #[.int .i64 fr] 3)) ((W2.alloc (.cells #[.int .i64 fr] 3)).alloc (.cells #[.int .i64 t] 3)) := (Below.refl _ _).alloc (Nat.le_refl _) _
  have t4 : ((W2.alloc (.cells #[.int .i64 fr] 3)).alloc (.cells #[.int .i64 t] 3)).cell? ⟨w.heap.size + 3, 0, none⟩ = some (.int .i64 t) := by rw [← z3]; simp
  have f4 := (b4.cell (p := ⟨w.heap.size + 2, 0, none⟩) (ecell_in f3)).trans f3
  have b24 := b3.trans (b4.mono b3.size)
  obtain ⟨W0, hW0⟩ : ∃ W0, W0 = (W2.alloc (.cells #[.int .i64 fr] 3)).alloc (.cells #[.int .i64 t] 3) := ⟨_, rfl⟩
  rw [← hW0] at t4 f4 b24
  have B0 := b2.trans (b24.mono b2.size)
  have hW : W0 = (((w.alloc (.cells #[.int .i64 a, .slice sa l.length sc] 39)).alloc (.cells (ecells e s) 31)).alloc (.cells #[.int .i64 fr] 3)).alloc (.cells #[.int .i64 t] 3) := by rw [hW0, hW2]
  have HW := Lib.hid hW
  have HB := Lib.hid B0
  have HE := Lib.hid (R2.on b24)
  have HX := Lib.hid (Z2.on b24)
  have HFT := Lib.hid (And.intro f4 t4)
  have HV := Lib.hid (fun W (q : Below w.heap.size w W) => hv.on q)
  have HT := Lib.hid (fun W (q : Below w.heap.size w W) => hT.below q)
  have KC := Lib.hid (tchk_any a l _ e s fr t W0 (HZ.out _ B0) (hv.on B0))
  have RB := Lib.hid (fun (h : ¬ tcF a l e fr t = 0) => ra_bad h)
  have TG := Lib.hid (fun (h : tcF a l e fr t = 0) => tc_good h)
  have RG : Hid (tcF a l e fr t = 0 → raF a l e fr t = if 400 < (rgS a l e fr t).length then 4 else 0) := Lib.hid (fun q => if_neg (fun z => z q))
  have RL0 : Hid (¬ raF a l e fr t = 0 → raL a l e fr t = []) := Lib.hid (fun q => if_neg q)
  have RL1 : Hid (raF a l e fr t = 0 → raL a l e fr t = rgS a l e fr t) := Lib.hid (fun q => if_pos q)
  generalize raL a l e fr t = L at RB RL0 RL1 ⊢
  generalize raF a l e fr t = F at RB RG RL0 RL1 ⊢
  generalize tcF a l e fr t = CF at KC RB TG RG
  clear hz hv hT hW2 b2 z2 Z2 R2 b3 z3 f3 b4 t4 f4 b24 hW0 B0 hW W2
  go_enter Tryz.func4, Tryz.ntmps4
  go_upto_region 1 with fail
  rw [← HW.out]
  clear HW
  obtain ⟨z0, z1⟩ := HX.out
  have zl := ecell_in z0
  obtain ⟨ff, tt⟩ := HFT.out
  have fl := ecell_in ff
  have tl := ecell_in tt
  go_wp2_with (refine ev_load (by rfl) (.tmp 5) (by rfl) (w.heap.size + 1) e s (by rfl) HE.out ?_)
  clear z0 z1 zl ff tt fl tl
  refine KC.out.mono ?_
  rintro y w1 ⟨rfl, hb⟩
  have B1 := Lib.hid (HB.out.trans (hb.mono HB.out.size))
  have E1 := Lib.hid (HE.out.on hb)
  have X1 := Lib.hid (HX.out.on hb)
  have F1 := Lib.hid (And.intro ((hb.cell (p := ⟨w.heap.size + 2, 0, none⟩) (ecell_in HFT.out.1)).trans HFT.out.1) ((hb.cell (p := ⟨w.heap.size + 3, 0, none⟩) (ecell_in HFT.out.2)).trans HFT.out.2))
  clear hb KC HB HE HX HFT
  by_cases hq : CF = 0
  case neg =>
    have N := Lib.hid (RB.out hq)
    rw [efault_ne hq]
    have HQ := Lib.hid hq
    clear hq RB TG RG RL0 RL1
    go_wp2
    go_ret2
    exact ⟨.slice none 0 0, by rw [N.out.1, efault_ne HQ.out]; rfl, B1.out, by rw [N.out.2]; exact World.ownsRow_nil _ _ _ _⟩
  obtain ⟨ez, hs⟩ := TG.out hq
  obtain ⟨he, hzz⟩ := ez_good ez
  have SB := strB_ends hs
  have G2 := Lib.hid (RG.out hq)
  rw [hq, efault_0]
  have EZ := Lib.hid ez
  have HEV := Lib.hid he
  have K2 := Lib.hid (reach_any e s w1 (HV.out _ B1.out) he)
  have ri := rea_in he
  obtain ⟨⟨ri1, ri2⟩, ⟨ri3, ri4⟩, _⟩ := ri
  have TL : Hid (taL a l e (fr - moA e.len e.alm) (t - leA e.len e.alm) = tmA a l e (fr - moA e.len e.alm) (t - leA e.len e.alm)) := Lib.hid (if_pos ez)
  have GS : Hid (rgL a l e fr t = rgG e.len e.alm fr t (tmA a l e (fr - moA e.len e.alm) (t - leA e.len e.alm))) := Lib.hid rfl
  have SO := Lib.hid (fun b => rgS_of (a := a) (l := l) (fr := fr) (t := t) he (b := b))
  have SL := Lib.hid (rgS_len a l e fr t)
  have AL := tmA_len (a := a) (l := l) (fr := fr - moA e.len e.alm) (t := t - leA e.len e.alm) he
  have YT := Lib.hid (fun y (q : y ∈ tmA a l e (fr - moA e.len e.alm) (t - leA e.len e.alm)) => isTm_time ((tmA_mem he hzz).1 q))
  have KA := Lib.hid (fun W (q : Below w.heap.size w W) => tAll_any a l _ e s (fr - moA e.len e.alm) (t - leA e.len e.alm) W (HZ.out _ q) (HV.out _ q) (HT.out _ q))
  rw [ez, TL.out] at KA
  have GL := Lib.hid (fun ys => rgG_len he (fr := fr) (t := t) ys)
  generalize tmA a l e (fr - moA e.len e.alm) (t - leA e.len e.alm) = YS at GS AL YT KA
  generalize rgL a l e fr t = RL at GS SO SL
  generalize rgS a l e fr t = RS at SO SL G2 RL1
  generalize moA e.len e.alm = MO at K2 ri3 ri4 KA
  generalize leA e.len e.alm = LE at K2 ri1 ri2 KA
  clear hq ez hs he hzz RB TG RG TL
  go_wp2_with (refine ev_load (by rfl) (.tmp 5) (by rfl) (w.heap.size + 1) e s (by rfl) E1.out ?_)
  refine K2.out.mono ?_
  rintro y w2 ⟨rfl, hb⟩
  have B2 := Lib.hid (B1.out.trans (hb.mono B1.out.size))
  have E2 := Lib.hid (E1.out.on hb)
  have X2 := Lib.hid (X1.out.on hb)
  have F2 := Lib.hid (And.intro ((hb.cell (p := ⟨w.heap.size + 2, 0, none⟩) (ecell_in F1.out.1)).trans F1.out.1) ((hb.cell (p := ⟨w.heap.size + 3, 0, none⟩) (ecell_in F1.out.2)).trans F1.out.2))
  clear hb K2 B1 E1 X1 F1
  have K3 := Lib.hid (KA.out _ B2.out)
  obtain ⟨z0, z1⟩ := X2.out
  have zl := ecell_in z0
  obtain ⟨ff, tt⟩ := F2.out
  have fl := ecell_in ff
  have tl := ecell_in tt
  obtain ⟨⟨sb1, sb2⟩, sb3, sb4⟩ := SB
  go_wp2_with (refine ev_load (by rfl) (.tmp 5) (by rfl) (w.heap.size + 1) e s (by rfl) E2.out ?_)
  clear z0 z1 zl ff tt fl tl
  refine K3.out.mono ?_
  rintro y w3 ⟨u, rfl, ht, hb, _⟩
  rw [efault_0]
  have B3 := Lib.hid (B2.out.trans (hb.mono B2.out.size))
  have E3 := Lib.hid (E2.out.on hb)
  have F3 := Lib.hid (And.intro ((hb.cell (p := ⟨w.heap.size + 2, 0, none⟩) (ecell_in F2.out.1)).trans F2.out.1) ((hb.cell (p := ⟨w.heap.size + 3, 0, none⟩) (ecell_in F2.out.2)).trans F2.out.2))
  obtain ⟨la, lc, rfl, hc⟩ := ht
  have HC := Lib.hid hc
  have S3 := Lib.hid B3.out.size
  clear hb hc K3 KA B2 E2 X2 F2
  go_wp2_with fail
  go_loopw [16, 18, 50] (fun lv _ iv wr => ∃ k : Nat, k ≤ YS.length ∧ iv = .int .i64 k ∧ wr.ownsRow w3.heap.size 41 5 lv (rgG e.len e.alm fr t (YS.take k)).length ((rgG e.len e.alm fr t (YS.take k)).flatMap (encR e.name)) ∧ Below w3.heap.size w3 wr) (fun _ _ iv _ => YS.length - (intOf iv).toNat)
  case atStart => exact ⟨0, Nat.zero_le _, rfl, World.ownsRow_nil _ _ _ _, Below.refl _ _⟩
  case round =>
    obtain ⟨k, hk, rfl, hown, hB⟩ := hrel
    have HBr := Lib.hid hB
    have HO := Lib.hid hown
    have gl := GL.out (YS.take k)
    rw [List.length_take] at gl
    by_cases hlt : k < YS.length
    · rcases HC.out with hc | ⟨lb, lo, rfl, hc⟩
      · rw [hc] at hlt; simp at hlt
      obtain ⟨k0, k1, k2⟩ := hc k hlt
      have yt := YT.out _ (tm_mem4 hlt)
      have GK := Lib.hid (rgG_snoc e.len e.alm fr t YS k hlt)
      have gl2 := GL.out (YS.take (k + 1))
      rw [List.length_take] at gl2
      generalize YS.getD k (0, 0, 0) = Y at k0 k1 k2 yt GK
      have q0 := (hB.cell (p := ⟨lb, lo + k * 3, none⟩) (ecell_in k0)).trans k0
      have q1 := (hB.cell (p := ⟨lb, lo + k * 3 + 1, none⟩) (ecell_in k0)).trans k1
      have q2 := (hB.cell (p := ⟨lb, lo + k * 3 + 2, none⟩) (ecell_in k0)).trans k2
      have lb2 := ecell_in q0
      have b3 : Below wr.heap.size wr (wr.alloc (.cells #[.int .i64 Y.1, .int .i64 Y.2.1, .int .i64 Y.2.2] 52)) := (Below.refl _ _).alloc (Nat.le_refl _) _
      have T3 : (wr.alloc (.cells #[.int .i64 Y.1, .int .i64 Y.2.1, .int .i64 Y.2.2] 52)).cell? ⟨wr.heap.size, 0, none⟩ = some (.int .i64 Y.1) ∧ (wr.alloc (.cells #[.int .i64 Y.1, .int .i64 Y.2.1, .int .i64 Y.2.2] 52)).cell? ⟨wr.heap.size, 1, none⟩ = some (.int .i64 Y.2.1) ∧ (wr.alloc (.cells #[.int .i64 Y.1, .int .i64 Y.2.1, .int .i64 Y.2.2] 52)).cell? ⟨wr.heap.size, 2, none⟩ = some (.int .i64 Y.2.2) := by refine ⟨?_, ?_, ?_⟩ <;> simp
      obtain ⟨W3, hW3⟩ : ∃ W3, W3 = wr.alloc (.cells #[.int .i64 Y.1, .int .i64 Y.2.1, .int .i64 Y.2.2] 52) := ⟨_, rfl⟩
      rw [← hW3] at b3 T3
      have HW3 := Lib.hid hW3
      have BW := Lib.hid (HBr.out.trans (b3.mono HBr.out.size))
      have EW := Lib.hid (E3.out.on BW.out)
      have HO3 := Lib.hid (ow_below hown b3)
      have bw := B3.out.trans (BW.out.mono B3.out.size)
      have KR := Lib.hid (ringsOf_any e s Y W3 (HV.out _ bw) HEV.out (by omega) (by omega))
      have HT3 := Lib.hid T3
      clear hc k0 k1 k2 hB b3 T3 hW3 hown HO bw
      go_upto_region 13 with fail
      rw [← HW3.out]
      clear HW3 q0 q1 q2 lb2
      obtain ⟨t0, t1, t2⟩ := HT3.out
      have tl := ecell_in t0
      go_wp2_with (refine ev_load (by rfl) (.tmp 5) (by rfl) (w.heap.size + 1) e s (by rfl) EW.out ?_)
      clear t0 t1 t2 tl
      refine KR.out.mono ?_
      rintro y w5 ⟨u5, rfl, ow5, hb⟩
      have B5 := Lib.hid (BW.out.trans (hb.mono BW.out.size))
      have HO5 := Lib.hid (ow_below HO3.out hb)
      have S5 := Lib.hid BW.out.size
      have GN : Hid ((rgG e.len e.alm fr t (YS.take (k + 1))).length ≤ 24 * min (k + 1) YS.length) := Lib.hid gl2
      have RO := rgT_len (n := e.len) (y := Y) (evF_alm HEV.out).2 (k := e.alm.length) (Nat.le_refl _)
      have ro2 : (rgO e.len e.alm Y).length ≤ 100 := by
        have q1 := (evF_alm HEV.out).1
        have q2 : (rgO e.len e.alm Y).length = (rgT e.len e.alm Y e.alm.length).length := rfl
        omega
      have FL := Lib.hid (List.length_filter_le (fun x => !ouB fr t x) (rgO e.len e.alm Y))
      have F5 := Lib.hid (And.intro ((B5.out.cell (p := ⟨w.heap.size + 2, 0, none⟩) (ecell_in F3.out.1)).trans F3.out.1) ((B5.out.cell (p := ⟨w.heap.size + 3, 0, none⟩) (ecell_in F3.out.2)).trans F3.out.2))
      generalize rgG e.len e.alm fr t (YS.take k) = RT at HO3 HO5 GK gl
      generalize rgO e.len e.alm Y = OO at ow5 GK ro2 FL
      have fl3 := ecell_in F3.out.2
      clear gl2 RO KR EW
      rcases Nat.eq_zero_or_pos OO.length with l0 | lp
      · obtain ⟨a5, c5, e5⟩ := own_form ow5
        have o0 : OO = [] := List.eq_nil_of_length_eq_zero l0
        rw [l0] at e5
        subst e5
        have N : Hid (rgG e.len e.alm fr t (YS.take (k + 1)) = RT) := Lib.hid (by rw [GK.out, o0]; simp)
        obtain ⟨v7, w7, ap, o7, b7⟩ := app5_any (mo := []) HO5.out ⟨a5, c5, rfl, Or.inl rfl⟩ B5.out.size (by simp; omega)
        rw [List.append_nil] at o7
        have AP := Lib.hid ap
        have O7 := Lib.hid o7
        have B7 := Lib.hid (B5.out.trans b7)
        clear ap o7 b7 ow5 hb o0 l0 HO3 HO5
        go_wp2_with (first | (go_at_call 10; refine (delR_none _ _ _ _ _).mono ?_; rintro y w6 ⟨rfl, hw⟩; replace hw := hw.symm; subst hw) | (at_builtin; refine wpList_app rfl _ _ 32 rfl _ _ _ _ rfl rfl AP.out ?_))
        go_roundw
        case rel => exact ⟨k + 1, by omega, by go_num, by rw [N.out]; exact O7.out, B7.out⟩
        case measure => simp [intOf]; omega
      · rcases own_hol5 ow5 with ⟨_, o0⟩ | ⟨g, cap, rfl, hg, hgl, hcap, hh⟩
        · rw [o0] at lp; simp at lp
        have CA : ClR e.name g w5 (.pointer (some ⟨w.heap.size + 2, 0, none⟩)) (.pointer (some ⟨w.heap.size + 3, 0, none⟩)) (ouB fr t) := fun c W qa =>
          isOut_any e.name fr t c (w.heap.size + 2) (w.heap.size + 3) W ((qa.cell (p := ⟨w.heap.size + 2, 0, none⟩) (ecell_in F5.out.1) (by show w.heap.size + 2 ≠ g; have := S5.out; omega)).trans F5.out.1) ((qa.cell (p := ⟨w.heap.size + 3, 0, none⟩) (ecell_in F5.out.2) (by show w.heap.size + 3 ≠ g; have := S5.out; omega)).trans F5.out.2)
        have KD := Lib.hid (delR e.name _ _ (ouB fr t) OO g 0 cap w5 CA hh lp hcap (by omega))
        have G3 : Hid (w3.heap.size ≤ g) := Lib.hid (by have := S5.out; omega)
        have BL := Lib.hid (fun k q => HO3.out.lt k q)
        have HG := Lib.hid hg
        clear CA hh ow5 hb hg hgl hcap
        go_wp2_with fail
        refine KD.out.mono ?_
        rintro y w6 ⟨rfl, hh6, ha6⟩
        have B6 := B5.out.trans (ha6.below (n0 := w3.heap.size) G3.out B5.out.size)
        have O6 := own_apt HO5.out ha6 (Or.inr (fun z => by have := (BL.out g z).2; have := HG.out; omega))
        have fl6 := FL.out
        have gl6 := gl
        obtain ⟨v7, w7, ap, o7, b7⟩ := app5_any O6 (hh6.rowK (cap := cap)) B6.size (by omega)
        rw [← GK.out] at o7
        have AP := Lib.hid ap
        have O7 := Lib.hid o7
        have B7 := Lib.hid (B6.trans b7)
        clear ap o7 b7 B6 O6 hh6 ha6 KD HO3 HO5 BL HG fl6 gl6
        go_wp2_with (at_builtin; refine wpList_app rfl _ _ 32 rfl _ _ _ _ rfl rfl AP.out ?_)
        go_roundw
        case rel => exact ⟨k + 1, by omega, by go_num, O7.out, B7.out⟩
        case measure => simp [intOf]; omega
    · have ek : k = YS.length := by omega
      have O9 := HO.out
      rw [ek, List.take_length, ← GS.out] at O9
      rw [ek, List.take_length, ← GS.out] at gl
      obtain ⟨a9, c9, e9⟩ := own_form O9
      have HO9 := Lib.hid O9
      have B9 := Lib.hid (B3.out.trans (hB.mono B3.out.size))
      have SZ9 := Lib.hid hB.size
      have sl := SL.out
      clear O9 HO hown ek hB
      subst e9
      by_cases hq : 400 < RL.length
      · have N : Hid (F = 4 ∧ L = []) := Lib.hid (by
          have nf := G2.out
          rw [if_pos (by omega)] at nf
          exact ⟨nf, RL0.out (by rw [nf]; decide)⟩)
        clear G2 RL0 RL1 sl
        go_wp2
        go_ret2
        exact ⟨.slice none 0 0, by rw [N.out.1]; rfl, B9.out, by rw [N.out.2]; exact World.ownsRow_nil _ _ _ _⟩
      · have N : Hid (F = 0 ∧ L = RS) := Lib.hid (by
          have nf := G2.out
          rw [if_neg (by omega)] at nf
          exact ⟨nf, RL1.out nf⟩)
        have KS := Lib.hid (sortR_any e.name RL w3.heap.size _ wr HO9.out SZ9.out (by omega))
        clear G2 RL0 RL1 sl gl
        go_wp2_with fail
        refine KS.out.mono ?_
        rintro y w9 ⟨rfl, b, hp, hs, hb, ow⟩
        have eb := SO.out b hp hs
        have ow2 : w9.ownsRow w3.heap.size 41 5 (.slice a9 RL.length c9) b.length (b.flatMap (encR e.name)) := by rw [← hp.length_eq]; exact ow
        subst eb
        have ZZ := Lib.hid (And.intro (B9.out.trans (hb.mono S3.out)) (own_mono ow2 S3.out))
        clear hp hs hb ow ow2 KS SO
        go_wp2
        go_ret2
        exact ⟨_, by rw [N.out.1]; rfl, ZZ.out.1, by rw [N.out.2]; exact ZZ.out.2⟩
end Go.Proofs.YtdiijpjfkgnjkafGreatDoor
