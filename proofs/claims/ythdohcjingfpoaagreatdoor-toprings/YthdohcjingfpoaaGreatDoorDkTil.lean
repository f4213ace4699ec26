/-
  What is proved here: what alarm.Till answers (a contract over the translation).
-/
import Derived.Test.YthdohcjingfpoaaGreatDoorAY
namespace Go.Proofs.YthdohcjingfpoaaGreatDoor
open Go.RowKit

theorem own_lower {w : World} {n0 n1 k n : Nat} {t : TypeId} {v : Value} {xs : List Value} (h : w.ownsRow n0 t k v n xs) (hn : n1 ≤ n0) : w.ownsRow n1 t k v n xs := by
  refine ⟨h.1, ?_⟩
  rcases h.2 with h2 | ⟨g, cap, cur, hv, hb, hg, hr⟩
  · exact Or.inl h2
  · exact Or.inr ⟨g, cap, cur, hv, Nat.le_trans hn hb, hg, hr⟩
/-- What is wrong with what is asked till a time. -/
def tlF (a : Int) (l : List (Int × Int)) (e : Evt) (fr t : Int) : Int := if tcF a l e fr t = 0 then waF a l e fr (t + 1) else tcF a l e fr t
def tlL (a : Int) (l : List (Int × Int)) (e : Evt) (fr t : Int) : List Rg := if tcF a l e fr t = 0 then waL a l e fr (t + 1) else []
set_option maxRecDepth 100000 in
set_option maxHeartbeats 4000000 in
theorem till_any (a : Int) (l : List (Int × Int)) (v : Value) (e : Evt) (s : Evs) (fr t : Int) (w : World) (hz : ZoneIn w v a l) (hv : EvB w e s) (hT : Tab w) :
    Calls Tryz.prog 111 #[v, .agg (ecells e s), .int .i64 fr, .int .i64 t] w (RaA e.name w (tlL a l e fr t) (tlF a l e fr t)) := by
  have HZ := Lib.hid (fun W (q : Below w.heap.size w W) => hz.on q)
  have HV := Lib.hid (fun W (q : Below w.heap.size w W) => hv.on q)
  have HT := Lib.hid (fun W (q : Below w.heap.size w W) => hT.below q)
  obtain ⟨sa, sc, rfl⟩ := hz.form
  obtain ⟨W0, hW, B0, _, Z0, R0⟩ := two_boxes w a l sa sc e s
  have HW := Lib.hid hW
  have HB := Lib.hid B0
  have HE := Lib.hid R0
  have HX := Lib.hid Z0
  have KC := Lib.hid (tchk_any a l _ e s fr t W0 (HZ.out _ B0) (HV.out _ B0))
  rcases (by omega : ¬ tcF a l e fr t = 0 ∨ tcF a l e fr t = 0) with hq | hq
  · have e1 : tlF a l e fr t = tcF a l e fr t := if_neg hq
    have e2 : tlL a l e fr t = [] := if_neg hq
    rw [e1, e2]
    have N1 : Hid (∀ W, Below w.heap.size w W → RaA e.name w [] (tcF a l e fr t) (.returned (.tuple #[.slice none 0 0, fault (tcF a l e fr t)])) W) := Lib.hid (fun W q => ⟨_, rfl, q, World.ownsRow_nil _ _ _ _⟩)
    generalize RaA e.name w [] (tcF a l e fr t) = PP at N1 ⊢
    rw [efault_ne hq] at N1 KC
    generalize tcF a l e fr t = F at N1 KC
    clear hz hv hT hW B0 Z0 R0 hq e1 e2 HZ HV HT
    go_enter Tryz.func111, Tryz.ntmps111
    go_upto_region 1 with fail
    rw [← HW.out]
    clear HW
    obtain ⟨z0, z1⟩ := HX.out
    have zl := ecell_in z0
    go_wp2_with (refine ev_load ?h1 (.tmp 5) ?h2 (w.heap.size + 1) e s ?h3 HE.out ?h4; (case h1 => rfl); (case h2 => rfl); (case h3 => rfl))
    clear z0 z1 zl
    refine KC.out.mono ?_
    rintro y w1 ⟨rfl, hb⟩
    have N2 := Lib.hid (N1.out w1 (HB.out.trans (hb.mono HB.out.size)))
    clear hb KC HB HE HX N1
    go_wp2
    exact N2.out
  · have e1 : tlF a l e fr t = waF a l e fr (t + 1) := if_pos hq
    have e2 : tlL a l e fr t = waL a l e fr (t + 1) := if_pos hq
    rw [e1, e2]
    rw [hq, efault_0] at KC
    obtain ⟨g1, g2⟩ := tc_good hq
    unfold strB at g2
    simp only [Bool.and_eq_true, decide_eq_true_eq] at g2
    obtain ⟨⟨⟨g3, g4⟩, g5⟩, _⟩ := g2
    unfold ist at g3 g4
    simp only [decide_eq_true_eq] at g3 g4
    have KW : Hid (∀ W, Below W0.heap.size W0 W → Calls Tryz.prog 54 #[.agg #[.int .i64 a, .slice sa l.length sc], .agg (ecells e s), .int .i64 fr, .int .i64 (t + 1)] W fun x w' => ∃ u, x = .returned (.tuple #[u, fault (waF a l e fr (t + 1))]) ∧ Hid (RaA e.name w (waL a l e fr (t + 1)) (waF a l e fr (t + 1)) (.returned (.tuple #[u, fault (waF a l e fr (t + 1))])) w')) := Lib.hid (fun W q => by
      have q2 := B0.trans (q.mono B0.size)
      refine (alwin_any a l _ e s fr (t + 1) W (HZ.out _ q2) (HV.out _ q2) (HT.out _ q2) g1 (by omega) (by omega) (by omega) (by omega)).mono (fun x w' ⟨u, hx, hb, ho⟩ => ⟨u, hx, Lib.hid ⟨u, rfl, q2.trans (hb.mono q2.size), own_lower ho q2.size⟩⟩))
    have q0 : IntKind.i64.wrap (t + 1) = t + 1 := by rw [IntKind.wrap_i64]; omega
    generalize RaA e.name w (waL a l e fr (t + 1)) (waF a l e fr (t + 1)) = PP at KW ⊢
    generalize fault (waF a l e fr (t + 1)) = FF at KW
    clear hz hv hT hW B0 Z0 R0 hq e1 e2 HZ HV HT g1 g3 g4 g5
    go_enter Tryz.func111, Tryz.ntmps111
    go_upto_region 1 with fail
    rw [← HW.out]
    clear HW
    obtain ⟨z0, z1⟩ := HX.out
    have zl := ecell_in z0
    go_wp2_with (refine ev_load ?j1 (.tmp 5) ?j2 (w.heap.size + 1) e s ?j3 HE.out ?j4; (case j1 => rfl); (case j2 => rfl); (case j3 => rfl))
    clear z0 z1 zl
    refine KC.out.mono ?_
    rintro y w1 ⟨rfl, hb⟩
    have E1 := Lib.hid (HE.out.on hb)
    obtain ⟨z0, z1⟩ := HX.out.on hb
    have zl := ecell_in z0
    have K2 := Lib.hid (KW.out w1 hb)
    clear hb KC HE HX KW HB
    go_wp2_with (refine ev_load ?k1 (.tmp 5) ?k2 (w.heap.size + 1) e s ?k3 E1.out ?k4; (case k1 => rfl); (case k2 => rfl); (case k3 => rfl))
    clear z0 z1 zl E1
    refine K2.out.mono ?_
    rintro y w2 ⟨u, rfl, FI⟩
    clear K2
    go_wp2
    exact FI.out
end Go.Proofs.YthdohcjingfpoaaGreatDoor
