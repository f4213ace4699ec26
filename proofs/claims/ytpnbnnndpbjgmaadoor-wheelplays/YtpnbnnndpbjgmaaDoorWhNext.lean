/-
  What is proved here: what package wheel's Next answers (a contract over the translation).
-/
import Derived.Test.YtpnbnnndpbjgmaaDoorWhInv
import Derived.Test.YtpnbnnndpbjgmaaDoorWhMin
namespace Go.Proofs.YtpnbnnndpbjgmaaDoor.Qu
open Go.RowKit

/-- The time of the first. -/
def wnT (M : List Rq) : Int := (M.headD zq).1
/-- What is told where there is none. -/
def wnF (M : List Rq) : Int := if M = [] then 5 else 0
theorem oc_at2 {x y : Rq} (h : x.1 < y.1) : oc x y < 0 := by
  unfold oc
  have e : cmi x.1 y.1 = -1 := if_pos h
  simp only [orL, e]
  rw [if_neg (by decide)]
  decide
theorem least_head {M : List Rq} {y : Rq} (hM : Rs M) (hy : y ∈ M) (h : ∀ z, z ∈ M → 0 ≤ oc z y) : M.headD zq = y := by
  rcases M with _ | ⟨x, M⟩
  · cases hy
  · rcases List.mem_cons.1 hy with rfl | q
    · rfl
    · have a := (List.pairwise_cons.1 hM).1 y q
      have c := h x List.mem_cons_self
      omega
/-- The least of the first slot that is not empty is the first of all. -/
theorem Iv.first {now : Int} {R : Nat → List Rq} {M : List Rq} (h : Iv now R M) {k : Nat} (hk : k < 320) (h0 : ∀ j, j < k → R j = []) {y : Rq} (hy : Lst (R k) y) : wnT M = y.1 ∧ wnF M = 0 := by
  have yM : y ∈ M := (h.mem y).2 ⟨k, hk, hy.1⟩
  have e := least_head h.rs yM (fun z hz => by
    obtain ⟨j, hj, q⟩ := (h.mem z).1 hz
    rcases Nat.lt_trichotomy j k with r | r | r
    · rw [h0 j r] at q; cases q
    · subst r; exact hy.2 z q
    · have s1 := h.slot hk hy.1
      have s2 := h.slot hj q
      have a1 := h.at_ k y hk hy.1
      have a2 := h.at_ j z hj q
      have n1 := h.n1
      have := sp_first s1 s2 (by omega) (by omega)
      have := oc_at2 (x := y) (y := z) (by omega)
      have := (oc_cm.anti y z).1 this
      omega)
  refine ⟨by unfold wnT; rw [e], ?_⟩
  unfold wnF
  rw [if_neg (fun q => by rw [q] at yM; cases yM)]
theorem Iv.none {now : Int} {R : Nat → List Rq} {M : List Rq} (h : Iv now R M) (h0 : ∀ j, j < 320 → R j = []) : wnT M = 0 ∧ wnF M = 5 := by
  have e : M = [] := by
    rcases M with _ | ⟨x, M⟩
    · rfl
    · obtain ⟨j, hj, q⟩ := (h.mem x).1 List.mem_cons_self
      rw [h0 j hj] at q
      cases q
  rw [e]
  exact ⟨rfl, rfl⟩
theorem field_at (y : Rq) (W : World) : (Instr.field 34 (agQ y) 0).run Tryd.prog W = .ok (.int .i64 y.1) W := by kernel_rfl
/-- What Next answers. -/
def NxA (M : List Rq) (w : World) (e : Ending) (w' : World) : Prop := e = .returned (.tuple #[.int .i64 (wnT M), fault (wnF M)]) ∧ Below w.heap.size w w'
set_option maxHeartbeats 4000000 in
set_option maxRecDepth 100000 in
theorem wnext_any (w : World) (b : Nat) (S : Nat → Value) (now : Int) (M : List Rq) (h : Wl w b S now M) :
    Calls Tryd.prog 14 #[.pointer (some ⟨b, 0, none⟩)] w (NxA M w) := by
  obtain ⟨R, hm, hi⟩ := h
  have bl := hm.box.lt
  have SL : Hid (∀ l s : Nat, l < 5 → s < 64 → ∃ (a : Option Addr) (n cap : Nat), w.cell? ⟨b, 2 + l * 64 + s, none⟩ = some (.slice a n cap) ∧ Hid (n = (R (l * 64 + s)).length) ∧ n ≤ 1000000 ∧ (0 < n → Hid ((∀ j, j < l * 64 + s → R j = []) → Calls Tryd.prog 28 #[.slice a n cap, .func (.func 27) #[] #[]] w fun e w' => ∃ y : Rq, e = .returned (agQ y) ∧ Hid (NxA M w (.returned (.tuple #[.int .i64 y.1, .nilIface])) w')))) := Lib.hid (fun l s hl5 hs6 => by
    have hk : l * 64 + s < 320 := by omega
    have cs := hm.box.cslot hk
    rw [← Nat.add_assoc] at cs
    have rd := (hm.own _ hk).rd
    obtain ⟨a, cap, e, _⟩ := id rd
    refine ⟨a, _, cap, by rw [cs, e], Lib.hid rfl, hi.row hk, fun hpos => Lib.hid (fun h0 => ?_)⟩
    rw [e] at rd
    refine (min_any (R (l * 64 + s)) _ w rd (List.length_pos_iff.1 hpos) (hi.row hk)).mono (fun e2 w' ⟨y, he, hy, hb⟩ => ⟨y, he, Lib.hid ?_⟩)
    obtain ⟨q1, q2⟩ := hi.first hk h0 hy
    unfold NxA
    rw [q1, q2]
    exact ⟨rfl, hb⟩)
  have FN : Hid ((∀ j, j < 320 → R j = []) → NxA M w (.returned (.tuple #[.int .i64 0, .iface 47 (.int .i64 5)])) w) := Lib.hid (fun h0 => by
    obtain ⟨q1, q2⟩ := hi.none h0
    unfold NxA
    rw [q1, q2]
    exact ⟨rfl, Below.refl _ _⟩)
  generalize NxA M w = PP at SL FN ⊢
  clear hm hi
  go_enter Tryd.func14, Tryd.ntmps14
  go_wp2_with fail
  go_loop [4, 5, 6, 7, 10] (fun _ _ _ i _ => ∃ l : Nat, l ≤ 5 ∧ i = .int .i64 l ∧ Hid (∀ j, j < l * 64 → R j = [])) (fun _ _ _ i _ => 5 - (intOf i).toNat)
  case atStart => exact ⟨0, by omega, rfl, Lib.hid (fun j hj => by omega)⟩
  case round =>
    obtain ⟨l, hl, rfl, H0⟩ := hrel
    by_cases hlt : l < 5
    · have hl5 : (l : Int) < 5 := by omega
      go_wp2_with fail
      go_loop [5, 6, 10] (fun _ _ i => ∃ s : Nat, s ≤ 64 ∧ i = .int .i64 s ∧ Hid (∀ j, j < l * 64 + s → R j = [])) (fun _ _ i => 64 - (intOf i).toNat)
      case atStart => exact ⟨0, by omega, rfl, H0⟩
      case round =>
        clear H0
        obtain ⟨s, hs, rfl, H0⟩ := hrel
        by_cases hst : s < 64
        · have hs6 : (s : Int) < 64 := by omega
          obtain ⟨a, n, cap, cs, HN, hn6, KM⟩ := SL.out l s hlt hst
          by_cases hn : 0 < n
          · have K1 := Lib.hid ((KM hn).out H0.out)
            have hn2 : (0 : Int) < (n : Int) := by omega
            clear KM
            go_wp2_with (go_at_call 28; refine K1.out.mono ?_; rintro e w2 ⟨y, rfl, F2⟩; have HFd := field_at y)
            exact F2.out
          · obtain rfl : n = 0 := by omega
            have H1 : Hid (∀ j, j < l * 64 + (s + 1) → R j = []) := Lib.hid (fun j hj => by
              rcases (by omega : j < l * 64 + s ∨ j = l * 64 + s) with q | q
              · exact H0.out j q
              · rw [q]; exact List.eq_nil_of_length_eq_zero HN.out.symm)
            clear KM
            go_wp2
            go_round
            case rel => exact ⟨s + 1, by omega, by go_num, H1⟩
            case measure => simp [intOf]; omega
        · obtain rfl : s = 64 := by omega
          have H1 : Hid (∀ j, j < (l + 1) * 64 → R j = []) := Lib.hid (fun j hj => H0.out j (by omega))
          go_wp2
          go_round
          case rel => exact ⟨l + 1, by omega, by go_num, H1⟩
          case measure => simp [intOf]; omega
    · obtain rfl : l = 5 := by omega
      have F1 := Lib.hid (FN.out (fun j hj => H0.out j (by omega)))
      go_wp2
      exact F1.out
end Go.Proofs.YtpnbnnndpbjgmaaDoor.Qu
