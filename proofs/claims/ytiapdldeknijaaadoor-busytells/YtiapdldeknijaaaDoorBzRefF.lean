/-
  What is proved here: what the document's Free (chimeref2) answers at stretches that are right (a contract over the translation).
-/
import Derived.Test.YtiapdldeknijaaaDoorBzRefN
namespace Go.Proofs.YtiapdldeknijaaaDoor.Bz
open Go.RowKit

set_option maxRecDepth 100000 in
set_option maxHeartbeats 8000000 in
theorem rFree_any (l : List Bz) (fr t : Int) (v : Value) (w : World) (hv : Rb w v l) (hl : l.length ≤ 1000) (hr : Rt l) :
    Calls Tryd.prog 12 #[v, .int .i64 fr, .int .i64 t] w fun e w' => ∃ u, e = .returned u ∧ Ob w' w.heap.size u (fre t fr (nrm l)) ∧ Below w.heap.size w w' := by
  have K := Lib.hid (rNorm_any l v w hv hl hr)
  have ML : (nrm l).length ≤ 1000 := Nat.le_trans (nrm_len hr) hl
  generalize nrm l = M at K ML ⊢
  obtain ⟨R, hR⟩ : ∃ R, R = fre t fr M := ⟨_, rfl⟩
  rw [← hR]
  have HR := Lib.hid hR
  have RL : Hid (R.length ≤ 1001) := Lib.hid (by rw [hR]; have := fre_len t M fr; omega)
  clear hv hr hR
  go_enter Tryd.func12, Tryd.ntmps12
  go_wp2_with fail
  refine K.out.mono ?_
  rintro e w1 ⟨u1, rfl, ho, hb⟩
  have O1 := Lib.hid ho
  have B1 := Lib.hid hb
  obtain ⟨am, cm, em, _⟩ := ho.rb
  subst em
  clear ho hb K
  go_wp2_with fail
  go_loopw [7, 9, 10, 11] (fun xv av iv _ wr => ∃ (k : Nat) (x : Value) (a : Int) (g : List Bz), k ≤ M.length ∧ xv = x ∧ av = .int .i64 a ∧ iv = .int .i64 k ∧ Hid (Ob wr w1.heap.size x g) ∧ Hid (g ++ fre t a (M.drop k) = R) ∧ Below w1.heap.size w1 wr) (fun _ _ iv _ _ => M.length - (intOf iv).toNat)
  case atStart => exact ⟨0, _, fr, [], Nat.zero_le _, rfl, rfl, rfl, Lib.hid (World.ownsRow_nil _ _ _ _), Lib.hid (by rw [HR.out]; rfl), Below.refl _ _⟩
  case round =>
    obtain ⟨k, x, a, g, hk, hx, rfl, rfl, HO, HE, hB⟩ := hrel
    replace hx := hx.symm
    subst hx
    have HB := Lib.hid hB
    have GL : g.length ≤ 1001 := by have := RL.out; rw [← HE.out, List.length_append] at this; omega
    by_cases hlt : k < M.length
    case neg =>
      have E9 : Hid (g ++ frp a t = R) := Lib.hid (by have := HE.out; rwa [show k = M.length by omega, List.drop_length] at this)
      by_cases c : a < t
      · obtain ⟨v6, w6, ap, o6, b6⟩ := ap_next (a, t) HO.out hB.size (by omega)
        have AP := Lib.hid ap
        have O6 : Hid (Ob w6 w.heap.size v6 R) := Lib.hid (by rw [← E9.out]; unfold frp; rw [if_pos c]; exact own_mono o6 B1.out.size)
        have B6 := Lib.hid (B1.out.trans ((HB.out.trans b6).mono B1.out.size))
        clear ap o6 b6 hB
        go_wp2_with (at_builtin; refine wpl_app rfl _ _ 22 rfl _ _ _ _ rfl rfl AP.out ?_)
        go_ret
        exact ⟨v6, rfl, O6.out, B6.out⟩
      · have O6 : Hid (Ob wr w.heap.size x R) := Lib.hid (by rw [← E9.out]; unfold frp; rw [if_neg c, List.append_nil]; exact own_mono HO.out B1.out.size)
        have B6 := Lib.hid (B1.out.trans (HB.out.mono B1.out.size))
        clear hB
        go_wp2
        go_ret
        exact ⟨x, rfl, O6.out, B6.out⟩
    obtain ⟨b, off, ea, _, c1, c2⟩ := rb_at (O1.out.rb.on hB) hlt
    subst ea
    have ST := Lib.hid (fre_step t a M k hlt)
    have CX : Hid (∀ W, Below w1.heap.size w1 W → W.cell? ⟨b, off + k * 2, none⟩ = some (.int .i64 (M.getD k (0, 0)).1) ∧ W.cell? ⟨b, off + k * 2 + 1, none⟩ = some (.int .i64 (M.getD k (0, 0)).2)) := Lib.hid (fun W q => by
      obtain ⟨b', off', e', _, d1, d2⟩ := rb_at (O1.out.rb.on q) hlt
      simp only [Option.some.injEq, Addr.mk.injEq, and_true] at e'
      obtain ⟨rfl, rfl⟩ := e'
      exact ⟨d1, d2⟩)
    generalize M.getD k (0, 0) = X at c1 c2 ST CX
    have bl := cell_in c1
    have PA : Hid (∀ g', g' = g ++ frp a (min X.1 t) → g' ++ fre t (max a X.2) (M.drop (k + 1)) = R) := Lib.hid (fun g' e => by rw [e, List.append_assoc, ← ST.out, HE.out])
    clear hB ST HE
    rcases Classical.em (a < X.1 ∧ a < t) with q1 | q1
    case' inl =>
      obtain ⟨q2, q3⟩ := q1
      by_cases q4 : t < X.1
      case' pos =>
        obtain ⟨E, hE⟩ : ∃ E, E = t := ⟨_, rfl⟩
        have mE : min X.1 t = E := by omega
        rw [mE] at PA
        obtain ⟨v6, w6, ap, o6, b6⟩ := ap_next (a, t) HO.out HB.out.size (by omega)
        have AP := Lib.hid ap
        have O6 : Hid (Ob w6 w1.heap.size v6 (g ++ frp a E)) := Lib.hid (by unfold frp; rw [if_pos (by omega), hE]; exact o6)
        have B6 := Lib.hid (HB.out.trans b6)
        clear ap o6 b6 hE mE HO HB
        go_upto_region 12 with (at_builtin; refine wpl_app rfl _ _ 22 rfl _ _ _ _ rfl rfl AP.out ?_)
      case' neg =>
        obtain ⟨E, hE⟩ : ∃ E, E = X.1 := ⟨_, rfl⟩
        have mE : min X.1 t = E := by omega
        rw [mE] at PA
        obtain ⟨v6, w6, ap, o6, b6⟩ := ap_next (a, X.1) HO.out HB.out.size (by omega)
        have AP := Lib.hid ap
        have O6 : Hid (Ob w6 w1.heap.size v6 (g ++ frp a E)) := Lib.hid (by unfold frp; rw [if_pos (by omega), hE]; exact o6)
        have B6 := Lib.hid (HB.out.trans b6)
        clear ap o6 b6 hE mE HO HB
        go_upto_region 12 with (at_builtin; refine wpl_app rfl _ _ 22 rfl _ _ _ _ rfl rfl AP.out ?_)
    case' inr =>
      obtain ⟨E, hE⟩ : ∃ E, E = min X.1 t := ⟨_, rfl⟩
      rw [← hE] at PA
      obtain ⟨v6, hv6⟩ : ∃ v6, v6 = x := ⟨_, rfl⟩
      obtain ⟨w6, hw6⟩ : ∃ w6, w6 = wr := ⟨_, rfl⟩
      have O6 : Hid (Ob w6 w1.heap.size v6 (g ++ frp a E)) := Lib.hid (by unfold frp; rw [if_neg (by omega), List.append_nil, hv6, hw6]; exact HO.out)
      have B6 : Hid (Below w1.heap.size w1 w6) := Lib.hid (by rw [hw6]; exact HB.out)
      clear hE HO HB
      by_cases q2 : a < X.1
      case' pos =>
        have q3 : ¬ a < t := by omega
        clear q1
        go_upto_region 12 with fail
        rw [← hv6, ← hw6]
        clear hv6 hw6
      case' neg =>
        clear q1
        go_upto_region 12 with fail
        rw [← hv6, ← hw6]
        clear hv6 hw6
    all_goals
      clear c1 c2 bl
      obtain ⟨c1, c2⟩ := CX.out w6 B6.out
      have bl := cell_in c1
      have P9 := Lib.hid (PA.out _ rfl)
      clear PA CX
      by_cases q5 : a < X.2
      case' pos =>
        have mx : max a X.2 = X.2 := by omega
        rw [mx] at P9
        clear mx
        go_wp2
        go_roundw
        case rel => exact ⟨k + 1, v6, X.2, _, by omega, rfl, rfl, by go_num, O6, P9, B6.out⟩
        case measure => simp [intOf]; omega
      case' neg =>
        have mx : max a X.2 = a := by omega
        rw [mx] at P9
        clear mx
        go_wp2
        go_roundw
        case rel => exact ⟨k + 1, v6, a, _, by omega, rfl, rfl, by go_num, O6, P9, B6.out⟩
        case measure => simp [intOf]; omega
end Go.Proofs.YtiapdldeknijaaaDoor.Bz
