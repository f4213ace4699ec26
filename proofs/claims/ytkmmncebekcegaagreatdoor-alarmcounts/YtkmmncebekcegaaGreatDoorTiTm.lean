/-
  What is proved here: what times.timeOf answers (a contract over the translation).
-/
import Derived.Test.YtkmmncebekcegaaGreatDoorTiReal
import Derived.Test.YtkmmncebekcegaaGreatDoorZoTwi
namespace Go.Proofs.YtkmmncebekcegaaGreatDoor
open Go.RowKit Cal Txt

/-- A Time as it is told, or none. -/
def tmR : Option Tm → Value
  | some y => .tuple #[.agg #[.int .i64 y.1, .int .i64 y.2.1, .int .i64 y.2.2], .bool true]
  | none => .tuple #[.agg #[.int .i64 0, .int .i64 0, .int .i64 0], .bool false]
theorem wor_none {a : Int} {l : List (Int × Int)} {t : Int} (h : (Zo.twi a l t).length = 0) : wor a l t = none := by
  unfold wor; rw [List.eq_nil_of_length_eq_zero h]; rfl
theorem wor_some {a : Int} {l : List (Int × Int)} {t : Int} (h : ¬ (Zo.twi a l t).length = 0) : wor a l t = some ((Zo.twi a l t).getD 0 0) ∧ 1 ≤ (Zo.twi a l t).getD 0 0 ∧ (Zo.twi a l t).getD 0 0 ≤ 157785119 := by
  have hm : (Zo.twi a l t).getD 0 0 ∈ Zo.twi a l t := by rw [List.getD_eq_getElem?_getD, List.getElem?_eq_getElem (by omega)]; exact List.getElem_mem (by omega)
  have := of_decide_eq_true (Zo.twi_mem.1 hm).1
  refine ⟨?_, this⟩
  unfold wor
  rw [List.head?_eq_getElem?, List.getD_eq_getElem?_getD, List.getElem?_eq_getElem (by omega)]
  rfl
set_option maxRecDepth 100000 in
set_option maxHeartbeats 4000000 in
theorem timeOf_any (a : Int) (l : List (Int × Int)) (v : Value) (e : Evt) (c : Int × Int) (w : World) (hv : ZoneIn w v a l) (hz : Zo.zf a l = 0) (hc : ist c.2 = true) (h0 : 0 ≤ e.len) (h1 : e.len ≤ 100000) :
    Calls Tryz.prog 56 #[v, .agg #[.int .i64 c.1, .int .i64 c.2], .int .i64 e.len] w fun y w' => y = .returned (tmR (tim a l e c)) ∧ Below w.heap.size w w' := by
  have HV := Lib.hid (fun W (q : Below w.heap.size w W) => hv.on q)
  obtain ⟨sa, sc, rfl⟩ := hv.form
  have B0 := (Below.refl w.heap.size w).alloc (Nat.le_refl _) (.cells #[.int .i64 a, .slice sa l.length sc] 24)
  have B1 := B0.alloc B0.size (.cells #[.int .i64 c.1, .int .i64 c.2] 74)
  have B2 := B1.alloc B1.size (.cells #[.int .i64 0, .int .i64 0, .int .i64 0] 54)
  obtain ⟨W1, hW1⟩ : ∃ W1, W1 = w.alloc (.cells #[.int .i64 a, .slice sa l.length sc] 24) := ⟨_, rfl⟩
  have g0 : W1.cell? ⟨w.heap.size, 0, none⟩ = some (.int .i64 a) ∧ W1.cell? ⟨w.heap.size, 1, none⟩ = some (.slice sa l.length sc) := by rw [hW1]; constructor <;> simp
  have z1 : W1.heap.size = w.heap.size + 1 := by rw [hW1, World.size_alloc]
  obtain ⟨W2, hW2⟩ : ∃ W2, W2 = W1.alloc (.cells #[.int .i64 c.1, .int .i64 c.2] 74) := ⟨_, rfl⟩
  have g1 : W2.cell? ⟨w.heap.size + 1, 0, none⟩ = some (.int .i64 c.1) ∧ W2.cell? ⟨w.heap.size + 1, 1, none⟩ = some (.int .i64 c.2) := by rw [hW2, ← z1]; constructor <;> simp
  have z2 : W2.heap.size = w.heap.size + 1 + 1 := by rw [hW2, World.size_alloc, z1]
  obtain ⟨W0, hW0⟩ : ∃ W0, W0 = W2.alloc (.cells #[.int .i64 0, .int .i64 0, .int .i64 0] 54) := ⟨_, rfl⟩
  have f2 : (W0.cell? ⟨w.heap.size + 1 + 1, 0, none⟩ = some (.int .i64 0) ∧ W0.cell? ⟨w.heap.size + 1 + 1, 1, none⟩ = some (.int .i64 0) ∧ W0.cell? ⟨w.heap.size + 1 + 1, 2, none⟩ = some (.int .i64 0)) ∧ (W0.frozen? ⟨w.heap.size + 1 + 1, 0, none⟩ = false ∧ W0.frozen? ⟨w.heap.size + 1 + 1, 1, none⟩ = false ∧ W0.frozen? ⟨w.heap.size + 1 + 1, 2, none⟩ = false) := by
    rw [hW0, ← z2]
    refine ⟨⟨?_, ?_, ?_⟩, ?_, ?_, ?_⟩ <;> simp
  have f0 : W0.cell? ⟨w.heap.size, 0, none⟩ = some (.int .i64 a) ∧ W0.cell? ⟨w.heap.size, 1, none⟩ = some (.slice sa l.length sc) := by
    rw [hW0, hW2]
    exact ⟨Lib.cell?_alloc_some _ (Lib.cell?_alloc_some _ g0.1), Lib.cell?_alloc_some _ (Lib.cell?_alloc_some _ g0.2)⟩
  have f1 : W0.cell? ⟨w.heap.size + 1, 0, none⟩ = some (.int .i64 c.1) ∧ W0.cell? ⟨w.heap.size + 1, 1, none⟩ = some (.int .i64 c.2) := by
    rw [hW0]
    exact ⟨Lib.cell?_alloc_some _ g1.1, Lib.cell?_alloc_some _ g1.2⟩
  have hW : W0 = ((w.alloc (.cells #[.int .i64 a, .slice sa l.length sc] 24)).alloc (.cells #[.int .i64 c.1, .int .i64 c.2] 74)).alloc (.cells #[.int .i64 0, .int .i64 0, .int .i64 0] 54) := by rw [hW0, hW2, hW1]
  clear g0 g1 z1 z2 hW0 hW2 hW1 W1 W2
  rw [← hW] at B2
  have HW := Lib.hid hW
  have HB := Lib.hid B2
  have H1 := Lib.hid f1
  have H2 := Lib.hid f2
  have KW := Lib.hid (zworld_any a l _ c.2 W0 (HV.out _ B2))
  have hzt : zt a l c.2 = 0 := by unfold zt; rw [if_pos hz, if_pos (by rw [isT_ist]; exact hc)]
  have ZW : Hid (zw a l c.2 = if (Zo.twi a l c.2).length = 0 then 8 else 0) := Lib.hid (if_pos hzt)
  have WN := Lib.hid (@wor_none a l c.2)
  have WS := Lib.hid (@wor_some a l c.2)
  have TI : Hid (tim a l e c = match wor a l c.2 with | none => none | some f => if f + e.len ≤ 157785119 then some (c.1, f, f + e.len) else none) := Lib.hid rfl
  obtain ⟨c00, c01⟩ := f0
  obtain ⟨c10, c11⟩ := f1
  have bl := ecell_in c00
  have bl1 := ecell_in c10
  generalize tim a l e c = T at TI ⊢
  generalize (Zo.twi a l c.2).getD 0 0 = f at KW WS
  generalize (Zo.twi a l c.2).length = n at ZW WN WS
  generalize wor a l c.2 = O at TI WN WS
  generalize zw a l c.2 = ZZ at ZW KW
  clear hv hz hc B0 B1 B2 hW hzt f2 HV
  go_enter Tryz.func56, Tryz.ntmps56
  go_upto_region 1 with fail
  rw [← HW.out]
  clear HW
  go_wp2_with fail
  clear c00 c01 c10 c11
  refine KW.out.mono ?_
  rintro y w1 ⟨rfl, hb⟩
  obtain ⟨cc, ff⟩ := bcell hb
  have z1 := ecell_in H2.out.1.1
  have r0 := (cc _ _ z1).trans H2.out.1.1
  have r1 := (cc _ _ z1).trans H2.out.1.2.1
  have r2 := (cc _ _ z1).trans H2.out.1.2.2
  have q0 := (ff _ _ z1).trans H2.out.2.1
  have q1 := (ff _ _ z1).trans H2.out.2.2.1
  have q2 := (ff _ _ z1).trans H2.out.2.2.2
  have l3 : w.heap.size + 1 + 1 < w1.heap.size := Nat.lt_of_lt_of_le z1 hb.size
  have wl : w.heap.size ≤ w.heap.size + 1 + 1 := by omega
  have d0 := (cc _ _ (ecell_in H1.out.1)).trans H1.out.1
  have d1 := (cc _ _ (ecell_in H1.out.1)).trans H1.out.2
  have dl := ecell_in d0
  have B3 := Lib.hid (HB.out.trans (hb.mono HB.out.size))
  clear cc ff hb KW HB H1 H2 z1
  by_cases hn : n = 0
  · have E0 : Hid (T = none) := Lib.hid (by rw [TI.out, WN.out hn])
    have Z8 : ZZ = 8 := by rw [ZW.out, if_pos hn]
    subst Z8
    rw [NumA_no (by decide)]
    clear TI WN WS ZW
    go_wp2
    refine bodyPost_ret (v := .tuple #[.agg #[.int .i64 0, .int .i64 0, .int .i64 0], .bool false]) (by simp [results, Tryz.results56, go_sem, r0, r1, r2]) rfl ⟨by rw [E0.out]; rfl, ?_⟩
    repeat (first | exact B3.out | refine Below.setCell ?_ wl _)
  have Z0 : ZZ = 0 := by rw [ZW.out, if_neg hn]
  obtain ⟨w1e, g1, g2⟩ := WS.out hn
  have EO : Hid (T = if f + e.len ≤ 157785119 then some (c.1, f, f + e.len) else none) := Lib.hid (by rw [TI.out, w1e])
  subst Z0
  rw [NumA_yes rfl]
  clear TI WN WS ZW w1e
  by_cases hl : f + e.len ≤ 157785119
  · have E0 : Hid (T = some (c.1, f, f + e.len)) := Lib.hid (by rw [EO.out, if_pos hl])
    clear EO
    go_wp2_with (go_at_call 89; refine (add_yes f e.len _ g1 g2 (by omega) hl).mono ?_; rintro y w2 ⟨rfl, hw⟩; replace hw := hw.symm; subst hw)
    refine bodyPost_ret (v := .tuple #[.agg #[.int .i64 c.1, .int .i64 f, .int .i64 (f + e.len)], .bool true]) (by simp [results, Tryz.results56, go_sem, r0, r1, r2]) rfl ⟨by rw [E0.out]; rfl, ?_⟩
    repeat (first | exact B3.out | refine Below.setCell ?_ wl _)
  · have E0 : Hid (T = none) := Lib.hid (by rw [EO.out, if_neg hl])
    clear EO
    go_wp2_with (go_at_call 89; refine (add_no f e.len _ (by omega)).mono ?_; rintro y w2 ⟨rfl, hw⟩; replace hw := hw.symm; subst hw)
    refine bodyPost_ret (v := .tuple #[.agg #[.int .i64 0, .int .i64 0, .int .i64 0], .bool false]) (by simp [results, Tryz.results56, go_sem, r0, r1, r2]) rfl ⟨by rw [E0.out]; rfl, ?_⟩
    repeat (first | exact B3.out | refine Below.setCell ?_ wl _)
end Go.Proofs.YtkmmncebekcegaaGreatDoor
