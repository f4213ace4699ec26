/-
  What is proved here: what the document's Time, Zone, Ahead and Twice answer of a zone (contracts over the translation).
-/
import Derived.Test.YtnnpnalfkcngmadDoorZoChk
import Derived.Test.YtnnpnalfkcngmadDoorZoDoc
import Derived.Test.YtnnpnalfkcngmadDoorOwn
import Derived.Test.YtnnpnalfkcngmadDoorRefIn
namespace Go.Proofs.YtnnpnalfkcngmadDoor
open Go.RowKit Cal Txt Zo

theorem zrefTime (t : Int) (w : World) :
    Calls Tryd.prog 11 #[.int .i64 t] w fun e w' => e = .returned (.bool (isT t)) ∧ w' = w := by
  by_cases h : 1 ≤ t
  all_goals
    go_enter Tryd.func11, Tryd.ntmps11
    go_wp2
    go_ret
    exact ⟨ret_bool (by unfold isT; rw [Bool.eq_iff_iff]; simp; omega), rfl⟩
theorem zrefTime_yes (t : Int) (w : World) (h : 1 ≤ t ∧ t ≤ 157785119) :
    Calls Tryd.prog 11 #[.int .i64 t] w fun e w' => e = .returned (.bool true) ∧ w' = w :=
  (zrefTime t w).mono fun _ _ ⟨h1, h2⟩ => ⟨by rw [h1, show isT t = true from decide_eq_true h], h2⟩
theorem zrefTime_no (t : Int) (w : World) (h : ¬ (1 ≤ t ∧ t ≤ 157785119)) :
    Calls Tryd.prog 11 #[.int .i64 t] w fun e w' => e = .returned (.bool false) ∧ w' = w :=
  (zrefTime t w).mono fun _ _ ⟨h1, h2⟩ => ⟨by rw [h1, show isT t = false from decide_eq_false h], h2⟩
set_option maxRecDepth 100000 in
set_option maxHeartbeats 4000000 in
theorem refZone_any (a : Int) (l : List (Int × Int)) (v : Value) (w : World) (hv : ZoneIn w v a l) :
    Calls Tryd.prog 8 #[v] w fun e w' => e = .returned (.int .i64 (zf a l)) ∧ Below w.heap.size w w' := by
  have HV := Lib.hid (fun W (q : Below w.heap.size w W) => hv.on q)
  obtain ⟨sa, sc, rfl⟩ := hv.form
  have B0 := (Below.refl w.heap.size w).alloc (Nat.le_refl _) (.cells #[.int .i64 a, .slice sa l.length sc] 34)
  have HB := Lib.hid B0
  clear hv B0
  have hz := Lib.hid (ZBox.new w a (.slice sa l.length sc) 34)
  by_cases h20 : 20 < l.length
  · have N1 : Hid (zf a l = 4) := Lib.hid (if_pos h20)
    go_enter Tryd.func8, Tryd.ntmps8
    go_wp2
    go_ret
    exact ⟨ret_int N1.out.symm, HB.out⟩
  by_cases hA : -900 ≤ a ∧ a ≤ 900
  case neg =>
    have N1 : Hid (zf a l = 1) := Lib.hid (by unfold zf; rw [if_neg h20, if_pos hA])
    rcases (by omega : a < -900 ∨ (-900 ≤ a ∧ 900 < a)) with q | ⟨q, q'⟩
    all_goals
      clear hA
      go_enter Tryd.func8, Tryd.ntmps8
      go_wp2
      go_ret
      exact ⟨ret_int N1.out.symm, HB.out⟩
  have EZ : Hid (zf a l = sfl l l.length) := Lib.hid (by unfold zf; rw [if_neg h20, if_neg (fun q => q hA)])
  obtain ⟨A1, A2⟩ := hA
  go_enter Tryd.func8, Tryd.ntmps8
  go_wp2_with fail
  generalize w.alloc (.cells #[.int .i64 a, .slice sa l.length sc] 34) = W0 at HB hz ⊢
  go_loopw [3] (fun i wr => ∃ k : Nat, k ≤ l.length ∧ i = .int .i64 k ∧ sfl l k = 0 ∧ Below W0.heap.size W0 wr) (fun i _ => l.length - (intOf i).toNat)
  case atStart => exact ⟨0, Nat.zero_le _, rfl, rfl, Below.refl _ _⟩
  case round =>
    obtain ⟨k, hk, rfl, hF, hB⟩ := hrel
    have HF := Lib.hid hF
    have Bw := HB.out.trans (hB.mono HB.out.size)
    have zb := hz.out.on hB
    have zl := zb.lt
    obtain ⟨z1, z2⟩ := zb
    clear hF
    by_cases hlt : k < l.length
    · obtain ⟨_, e', sa', sc', rfl, hc⟩ := HV.out _ Bw
      obtain ⟨rfl, rfl⟩ : sa = sa' ∧ sc = sc' := by simpa using e'
      rcases hc with hc | ⟨b, off, rfl, hc⟩
      · rw [hc] at hlt; simp at hlt
      obtain ⟨k1, k2⟩ := hc k hlt
      have bl := zcell_in k1
      have b1 : b < wr.heap.size := bl
      obtain ⟨x, hx⟩ : ∃ x, x = (l.getD k (0, 0)).1 := ⟨_, rfl⟩
      obtain ⟨y, hy⟩ : ∃ y, y = (l.getD k (0, 0)).2 := ⟨_, rfl⟩
      rw [← hx] at k1
      rw [← hy] at k2
      have HX := Lib.hid hx
      have HY := Lib.hid hy
      have E1 := Lib.hid (fun (g : ¬ sf l k = 0) => EZ.out.trans (sfl_end hlt HF.out g))
      have E0 := Lib.hid (fun (g : sf l k = 0) => (sfl_one HF.out).trans g)
      have AW : Below W0.heap.size W0 (wr.alloc (.cells #[.int .i64 x, .int .i64 y] 47)) := hB.alloc hB.size _
      have hBB := Lib.hid AW
      have HBw := Lib.hid Bw
      clear hx hy e' hB Bw bl AW
      by_cases hT : 1 ≤ x ∧ x ≤ 157785119
      case neg =>
        have N1 : Hid (sf l k = 1) := Lib.hid (sf_one (Or.inl (by rw [← HX.out]; exact hT)))
        have N2 : Hid (zf a l = 1) := Lib.hid ((E1.out (by rw [N1.out]; decide)).trans N1.out)
        clear hc
        go_wp2_with fail
        refine (zrefTime_no _ _ hT).mono ?_
        rintro e w2 ⟨rfl, rfl⟩
        go_wp2
        go_ret
        exact ⟨ret_int N2.out.symm, HBw.out.alloc HBw.out.size _⟩
      have hT' := hT
      obtain ⟨t1, t2⟩ := hT'
      by_cases hY : -900 ≤ y ∧ y ≤ 900
      case neg =>
        have N1 : Hid (sf l k = 1) := Lib.hid (sf_one (Or.inr (by rw [← HY.out]; exact hY)))
        have N2 : Hid (zf a l = 1) := Lib.hid ((E1.out (by rw [N1.out]; decide)).trans N1.out)
        rcases (by omega : y < -900 ∨ (-900 ≤ y ∧ 900 < y)) with q | ⟨q, q'⟩
        all_goals
          clear hc hY
          go_wp2_with fail
          refine (zrefTime_yes _ _ hT).mono ?_
          rintro e w2 ⟨rfl, rfl⟩
          go_wp2
          go_ret
          exact ⟨ret_int N2.out.symm, HBw.out.alloc HBw.out.size _⟩
      obtain ⟨y1, y2⟩ := id hY
      rcases Nat.eq_zero_or_pos k with h0 | h0
      · subst h0
        simp only [Nat.zero_mul, Nat.add_zero] at k1 k2
        have N1 : Hid (sfl l 1 = 0) := Lib.hid (E0.out (sf_none (by rw [← HX.out, ← HY.out]; exact ⟨⟨t1, t2⟩, hY⟩) (by omega)))
        clear hc hY
        go_wp2_with fail
        refine (zrefTime_yes _ _ hT).mono ?_
        rintro e w2 ⟨rfl, rfl⟩
        go_wp2_with fail
        go_quiet (fail)
        go_wp2
        go_roundw
        case rel => exact ⟨1, by omega, by go_num, N1.out, below_drewN hBB.out _⟩
        case measure => simp [intOf]; omega
      · obtain ⟨j, rfl⟩ : ∃ j, k = j + 1 := ⟨k - 1, by omega⟩
        have k3 := (hc j (by omega)).1
        obtain ⟨p, hp⟩ : ∃ p, p = (l.getD j (0, 0)).1 := ⟨_, rfl⟩
        rw [← hp] at k3
        obtain ⟨p1, p2⟩ := (sf_open (sfl_zero HF.out j (by omega))).1
        rw [← hp] at p1 p2
        have HP := Lib.hid hp
        clear hp
        by_cases hd : x - p < 1440
        · have N1 : Hid (sf l (j + 1) = 7) := Lib.hid (sf_seven (by rw [← HX.out, ← HY.out]; exact ⟨⟨t1, t2⟩, hY⟩) (by rw [Nat.add_sub_cancel, ← HX.out, ← HP.out]; exact ⟨by omega, hd⟩))
          have N2 : Hid (zf a l = 7) := Lib.hid ((E1.out (by rw [N1.out]; decide)).trans N1.out)
          clear hc hY
          go_wp2_with fail
          refine (zrefTime_yes _ _ hT).mono ?_
          rintro e w2 ⟨rfl, rfl⟩
          go_wp2_with fail
          go_quiet (fail)
          go_wp2
          go_ret
          exact ⟨ret_int N2.out.symm, below_drewN (HBw.out.alloc HBw.out.size _) _⟩
        · have N1 : Hid (sfl l (j + 1 + 1) = 0) := Lib.hid (E0.out (sf_none (by rw [← HX.out, ← HY.out]; exact ⟨⟨t1, t2⟩, hY⟩) (by rw [Nat.add_sub_cancel, ← HX.out, ← HP.out]; omega)))
          clear hc hY
          go_wp2_with fail
          refine (zrefTime_yes _ _ hT).mono ?_
          rintro e w2 ⟨rfl, rfl⟩
          go_wp2_with fail
          go_quiet (fail)
          go_wp2
          go_roundw
          case rel => exact ⟨j + 1 + 1, by omega, by go_num, N1.out, below_drewN hBB.out _⟩
          case measure => simp [intOf]; omega
    · have N1 : Hid (zf a l = 0) := Lib.hid (by rw [EZ.out, show l.length = k by omega]; exact HF.out)
      go_wp2
      go_ret
      exact ⟨ret_int N1.out.symm, Bw⟩
set_option maxHeartbeats 2000000 in
theorem refAhead_any (a : Int) (l : List (Int × Int)) (v : Value) (u : Int) (w : World) (hv : ZoneIn w v a l) (hf : zf a l = 0) :
    Calls Tryd.prog 12 #[v, .int .i64 u] w fun e w' => e = .returned (.int .i64 (zah a l (beg u l))) ∧ Below w.heap.size w w' := by
  have HV := Lib.hid (fun W (q : Below w.heap.size w W) => hv.on q)
  have EA := Lib.hid (lah_all (u := u) hf)
  have LL := (zf_open hf).1
  obtain ⟨sa, sc, rfl⟩ := hv.form
  have B0 := (Below.refl w.heap.size w).alloc (Nat.le_refl _) (.cells #[.int .i64 a, .slice sa l.length sc] 34)
  have HB := Lib.hid B0
  have hn := HV.out _ B0
  have hz := Lib.hid (ZBox.new w a (.slice sa l.length sc) 34)
  clear hv B0 hf
  obtain ⟨_, e', sa', sc', rfl, hc⟩ := hn
  obtain ⟨rfl, rfl⟩ : sa = sa' ∧ sc = sc' := by simpa using e'
  have HC := Lib.hid hc
  clear hc e' HV
  go_enter Tryd.func12, Tryd.ntmps12
  go_wp2_with fail
  generalize w.alloc (.cells #[.int .i64 a, .slice sa l.length sc] 34) = W0 at HB HC hz ⊢
  go_loop [5, 6] (fun n i => ∃ k : Nat, k ≤ l.length ∧ i = .int .i64 k ∧ n = .int .i64 (lah a l u k)) (fun _ i => l.length - (intOf i).toNat)
  case atStart => exact ⟨0, Nat.zero_le _, rfl, rfl⟩
  case round =>
    obtain ⟨k, hk, rfl, rfl⟩ := hrel
    obtain ⟨z1, z2⟩ := hz.out
    have NX := Lib.hid (show lah a l u (k + 1) = if (l.getD k (0, 0)).1 ≤ u then (l.getD k (0, 0)).2 else lah a l u k from rfl)
    obtain ⟨c, hc⟩ : ∃ c, c = lah a l u k := ⟨_, rfl⟩
    rw [← hc] at NX
    rw [← hc]
    by_cases hlt : k < l.length
    · rcases HC.out with hc' | ⟨b, off, rfl, hc'⟩
      · rw [hc'] at hlt; simp at hlt
      obtain ⟨k1, k2⟩ := hc' k hlt
      obtain ⟨x, hx⟩ : ∃ x, x = (l.getD k (0, 0)).1 := ⟨_, rfl⟩
      obtain ⟨y, hy⟩ : ∃ y, y = (l.getD k (0, 0)).2 := ⟨_, rfl⟩
      rw [← hx] at k1
      rw [← hy] at k2
      rw [← hx, ← hy] at NX
      clear hc hc' hx hy
      by_cases hu : x ≤ u
      · have N1 : Hid (lah a l u (k + 1) = y) := Lib.hid (NX.out.trans (if_pos hu))
        go_wp2
        go_round
        case rel => exact ⟨k + 1, by omega, by go_num, by rw [N1.out]⟩
        case measure => simp [intOf]; omega
      · have N1 : Hid (lah a l u (k + 1) = c) := Lib.hid (NX.out.trans (if_neg hu))
        go_wp2
        go_round
        case rel => exact ⟨k + 1, by omega, by go_num, by rw [N1.out]⟩
        case measure => simp [intOf]; omega
    · have N1 : Hid (c = zah a l (beg u l)) := Lib.hid (by rw [hc, show k = l.length by omega]; exact EA.out)
      clear hc
      go_wp2
      go_ret
      exact ⟨ret_int N1.out, HB.out⟩
end Go.Proofs.YtnnpnalfkcngmadDoor
