/-
  What is proved here: what times.Next answers (a contract over the translation).
-/
import Derived.Test.YtdiijpjfkgnjkaeGreatDoorTiBet
namespace Go.Proofs.YtdiijpjfkgnjkaeGreatDoor
open Go.RowKit Cal Txt

/-- What Next tells. -/
def tnL (a : Int) (l : List (Int × Int)) (e : Evt) (x : Int) : List Tm := tmL a l e (x + 1) (x + 500001)
def tnF (a : Int) (l : List (Int × Int)) (e : Evt) (x : Int) : Int := if ¬ ezF a l e = 0 then ezF a l e else if ist x = false then 1 else if (tnL a l e x).length = 0 then 5 else 0
def tnT (a : Int) (l : List (Int × Int)) (e : Evt) (x : Int) : Tm := if tnF a l e x = 0 then (tnL a l e x).getD 0 (0, 0, 0) else (0, 0, 0)
theorem ist_ok {x : Int} (h : ist x = true) : okS (x + 1) (x + 500001) := by
  have := of_decide_eq_true h
  unfold okS
  omega
/-- A block of three zeros for a result, behind what a callee did. -/
def Zr3 (W : World) (b : Nat) : Prop := (W.cell? ⟨b, 0, none⟩ = some (.int .i64 0) ∧ W.cell? ⟨b, 1, none⟩ = some (.int .i64 0) ∧ W.cell? ⟨b, 2, none⟩ = some (.int .i64 0)) ∧ (W.frozen? ⟨b, 0, none⟩ = false ∧ W.frozen? ⟨b, 1, none⟩ = false ∧ W.frozen? ⟨b, 2, none⟩ = false)
theorem Zr3.on {W W' : World} {b : Nat} (h : Zr3 W b) (q : Below W.heap.size W W') : Zr3 W' b := by
  obtain ⟨c, f⟩ := bcell q
  have l := ecell_in h.1.1
  exact ⟨⟨(c _ _ l).trans h.1.1, (c _ _ l).trans h.1.2.1, (c _ _ l).trans h.1.2.2⟩, (f _ _ l).trans h.2.1, (f _ _ l).trans h.2.2.1, (f _ _ l).trans h.2.2.2⟩
set_option maxRecDepth 100000 in
set_option maxHeartbeats 4000000 in
theorem tnext_any (a : Int) (l : List (Int × Int)) (v : Value) (e : Evt) (s : Evs) (x : Int) (w : World) (hz : ZoneIn w v a l) (hv : EvB w e s) (hT : Tab w) :
    Calls Tryz.prog 18 #[v, .agg (ecells e s), .int .i64 x] w fun y w' => y = .returned (.tuple #[.agg #[.int .i64 (tnT a l e x).1, .int .i64 (tnT a l e x).2.1, .int .i64 (tnT a l e x).2.2], fault (tnF a l e x)]) ∧ Below w.heap.size w w' := by
  have HZ := Lib.hid (fun W (q : Below w.heap.size w W) => hz.on q)
  obtain ⟨sa, sc, rfl⟩ := hz.form
  obtain ⟨W2, hW2, b2, z2, Z2, R2⟩ := two_boxes w a l sa sc e s
  have b3 : Below W2.heap.size W2 (W2.alloc (.cells #[.int .i64 0, .int .i64 0, .int .i64 0] 49)) := (Below.refl _ _).alloc (Nat.le_refl _) _
  have q3 : Zr3 (W2.alloc (.cells #[.int .i64 0, .int .i64 0, .int .i64 0] 49)) (w.heap.size + 1 + 1) := by
    have z3 : w.heap.size + 1 + 1 = W2.heap.size := by omega
    rw [z3]
    refine ⟨⟨?_, ?_, ?_⟩, ?_, ?_, ?_⟩ <;> simp
  obtain ⟨W0, hW0⟩ : ∃ W0, W0 = W2.alloc (.cells #[.int .i64 0, .int .i64 0, .int .i64 0] 49) := ⟨_, rfl⟩
  rw [← hW0] at b3 q3
  have hW : W0 = ((w.alloc (.cells #[.int .i64 a, .slice sa l.length sc] 38)).alloc (.cells (ecells e s) 29)).alloc (.cells #[.int .i64 0, .int .i64 0, .int .i64 0] 49) := by rw [hW0, hW2]
  have B0 := b2.trans (b3.mono b2.size)
  have HW := Lib.hid hW
  have HB := Lib.hid B0
  have HE := Lib.hid (R2.on b3)
  have HX := Lib.hid (Z2.on b3)
  have HR := Lib.hid q3
  have KC := Lib.hid (tcheck_any a l _ e s W0 (HZ.out _ B0) (hv.on B0))
  have KA := Lib.hid (fun (h : ezF a l e = 0) (hs : ist x = true) W (q : Below w.heap.size w W) => tall_any a l _ e s (x + 1) (x + 500001) W (HZ.out _ q) (ez_good h).2 (hv.on q) (hT.below q) (ez_good h).1 (ist_ok hs))
  have N1 : Hid (¬ ezF a l e = 0 → tnF a l e x = ezF a l e) := Lib.hid (fun q => if_pos q)
  have N2 : Hid (ezF a l e = 0 → ist x = false → tnF a l e x = 1) := Lib.hid (fun q k => by unfold tnF; rw [if_neg (fun z => z q), if_pos k])
  have N3 : Hid (ezF a l e = 0 → ist x = true → tnF a l e x = if (tnL a l e x).length = 0 then 5 else 0) := Lib.hid (fun q k => by unfold tnF; rw [if_neg (fun z => z q), if_neg (by rw [k]; decide)])
  have L0 : Hid (¬ tnF a l e x = 0 → tnT a l e x = (0, 0, 0)) := Lib.hid (fun q => if_neg q)
  have L1 : Hid (tnF a l e x = 0 → tnT a l e x = (tnL a l e x).getD 0 (0, 0, 0)) := Lib.hid (fun q => if_pos q)
  have EL : tmL a l e (x + 1) (x + 500001) = tnL a l e x := rfl
  rw [EL] at KA
  generalize tnT a l e x = T at L0 L1 ⊢
  generalize tnF a l e x = F at N1 N2 N3 L0 L1 ⊢
  generalize tnL a l e x = RES at N3 L1 KA
  generalize ezF a l e = EF at N1 N2 N3 KC KA
  have wl : w.heap.size ≤ w.heap.size + 1 + 1 := by omega
  clear hz hv hT hW B0 b2 b3 z2 Z2 R2 q3 hW2 hW0 W2 EL
  go_enter Tryz.func18, Tryz.ntmps18
  go_upto_region 1 with fail
  rw [← HW.out]
  clear HW
  obtain ⟨z0, z1⟩ := HX.out
  have zl := ecell_in z0
  go_wp2_with (refine ev_load ?h1 (.tmp 4) ?h2 (w.heap.size + 1) e s ?h3 HE.out ?h4; (case h1 => rfl); (case h2 => rfl); (case h3 => rfl))
  clear z0 z1 zl
  refine KC.out.mono ?_
  rintro y w1 ⟨rfl, hb⟩
  have B1 := Lib.hid (HB.out.trans (hb.mono HB.out.size))
  have E1 := Lib.hid (HE.out.on hb)
  have X1 := Lib.hid (HX.out.on hb)
  have R1 := Lib.hid (HR.out.on hb)
  clear hb KC HB HE HX HR
  by_cases hq : EF = 0
  case neg =>
    have N : Hid (F = EF ∧ T = (0, 0, 0)) := Lib.hid ⟨N1.out hq, L0.out (by rw [N1.out hq]; exact hq)⟩
    rw [efault_ne hq]
    have HQ := Lib.hid hq
    obtain ⟨⟨r0, r1, r2⟩, q0, q1, q2⟩ := R1.out
    have rl := ecell_in r0
    clear hq N1 N2 N3 L0 L1 KA
    go_wp2
    refine bodyPost_ret (v := .tuple #[.agg #[.int .i64 0, .int .i64 0, .int .i64 0], .iface 72 (.int .i64 EF)]) (by simp [results, Tryz.results18, go_sem, r0, r1, r2]) rfl ⟨by rw [N.out.1, N.out.2, efault_ne HQ.out], ?_⟩
    repeat (first | exact B1.out | refine Below.setCell ?_ wl _)
  rw [hq, efault_0]
  have HQ := Lib.hid hq
  clear hq N1
  go_wp2_with fail
  refine (isTime_any x _).mono ?_
  rintro y w2 ⟨rfl, hw⟩
  replace hw := hw.symm
  subst hw
  rcases h1 : ist x with _ | _
  · have nf := N2.out HQ.out h1
    have N : Hid (F = 1 ∧ T = (0, 0, 0)) := Lib.hid ⟨nf, L0.out (by rw [nf]; decide)⟩
    obtain ⟨⟨r0, r1, r2⟩, q0, q1, q2⟩ := R1.out
    have rl := ecell_in r0
    clear nf N2 N3 L0 L1 KA
    go_wp2
    refine bodyPost_ret (v := .tuple #[.agg #[.int .i64 0, .int .i64 0, .int .i64 0], errRange]) (by simp [results, Tryz.results18, go_sem, r0, r1, r2]) rfl ⟨by rw [N.out.1, N.out.2]; rfl, ?_⟩
    repeat (first | exact B1.out | refine Below.setCell ?_ wl _)
  obtain ⟨x1, x2⟩ := of_decide_eq_true h1
  have G2 := Lib.hid (N3.out HQ.out h1)
  have K := Lib.hid (KA.out HQ.out h1 _ B1.out)
  clear N2 N3 KA h1
  obtain ⟨z0, z1⟩ := X1.out
  have zl := ecell_in z0
  have xs : x + 500000 + 1 = x + 500001 := by omega
  go_wp2_with (refine ev_load ?i1 (.tmp 4) ?i2 (w.heap.size + 1) e s ?i3 E1.out ?i4; (case i1 => rfl); (case i2 => rfl); (case i3 => rfl))
  clear z0 z1 zl xs
  refine K.out.mono ?_
  rintro y w2 ⟨u, rfl, ht, hb, _⟩
  have B2 := Lib.hid (B1.out.trans (hb.mono B1.out.size))
  have R2 := Lib.hid (R1.out.on hb)
  obtain ⟨a9, c9, rfl, hc⟩ := ht
  obtain ⟨⟨r0, r1, r2⟩, q0, q1, q2⟩ := R2.out
  have rl := ecell_in r0
  clear hb K B1 E1 X1 R1 R2
  by_cases hq : RES.length = 0
  · have nf : F = 5 := by rw [G2.out, if_pos hq]
    have N : Hid (F = 5 ∧ T = (0, 0, 0)) := Lib.hid ⟨nf, L0.out (by rw [nf]; decide)⟩
    rw [hq]
    clear nf L0 L1 G2 hc hq
    go_wp2
    refine bodyPost_ret (v := .tuple #[.agg #[.int .i64 0, .int .i64 0, .int .i64 0], .iface 72 (.int .i64 5)]) (by simp [results, Tryz.results18, go_sem, r0, r1, r2]) rfl ⟨by rw [N.out.1, N.out.2]; rfl, ?_⟩
    repeat (first | exact B2.out | refine Below.setCell ?_ wl _)
  · have nf : F = 0 := by rw [G2.out, if_neg hq]
    have N : Hid (F = 0 ∧ T = RES.getD 0 (0, 0, 0)) := Lib.hid ⟨nf, L1.out nf⟩
    rcases hc with hc | ⟨b, off, rfl, hc⟩
    · rw [hc] at hq; exact absurd rfl hq
    obtain ⟨c0, c1, c2⟩ := hc 0 (by omega)
    rw [Nat.zero_mul, Nat.add_zero] at c0 c1 c2
    have bl := ecell_in c0
    generalize RES.getD 0 (0, 0, 0) = Y at N c0 c1 c2
    obtain ⟨y1, y2, y3⟩ := Y
    dsimp only at c0 c1 c2
    obtain ⟨n, hn⟩ : ∃ n, n = RES.length := ⟨_, rfl⟩
    rw [← hn] at hq ⊢
    have n0 : ((n : Int) == 0) = false := by simp; omega
    have n1 : (0 : Int) < (n : Int) := by omega
    have n2 : 0 < n := by omega
    clear nf L0 L1 G2 hc hn
    go_wp2
    refine bodyPost_ret (v := .tuple #[.agg #[.int .i64 y1, .int .i64 y2, .int .i64 y3], .nilIface]) (by simp [results, Tryz.results18, go_sem, r0, r1, r2]) rfl ⟨by rw [N.out.1, N.out.2]; rfl, ?_⟩
    repeat (first | exact B2.out | refine Below.setCell ?_ wl _)
end Go.Proofs.YtdiijpjfkgnjkaeGreatDoor
