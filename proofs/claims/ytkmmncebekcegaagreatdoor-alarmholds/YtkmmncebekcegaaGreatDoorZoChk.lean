/-
  What is proved here: what package zone's Check, checkBoth, Ahead and Local answer of any zone (contracts over the translation).
-/
import Derived.Test.YtkmmncebekcegaaGreatDoorZo
import Derived.Lib.QuietBelow
namespace Go.Proofs.YtkmmncebekcegaaGreatDoor
open Go.RowKit Cal Txt Zo

theorem zcell_in {W : World} {b o : Nat} {v : Value} (k : W.cell? ⟨b, o, none⟩ = some v) : b < W.heap.size := by
  rcases Nat.lt_or_ge b W.heap.size with q | q
  · exact q
  · simp [World.cell?, Array.getElem?_eq_none q] at k
theorem fault_one : fault 1 = errRange := rfl
theorem zfault_ne {k : Int} (h : ¬ k = 0) : fault k = .iface 64 (.int .i64 k) := if_neg h
theorem ahB_yes {n : Int} (h : -900 ≤ n ∧ n ≤ 900) : ahB n = true := decide_eq_true h
theorem ahB_no {n : Int} (h : ¬ (-900 ≤ n ∧ n ≤ 900)) : ahB n = false := decide_eq_false h
set_option maxRecDepth 100000 in
set_option maxHeartbeats 4000000 in
theorem zcheck_any (a : Int) (l : List (Int × Int)) (v : Value) (w : World) (hv : ZoneIn w v a l) :
    Calls Tryz.prog 76 #[v] w fun e w' => e = .returned (fault (zf a l)) ∧ Below w.heap.size w w' := by
  have HV := Lib.hid (fun W (q : Below w.heap.size w W) => hv.on q)
  obtain ⟨sa, sc, rfl⟩ := hv.form
  have B0 := (Below.refl w.heap.size w).alloc (Nat.le_refl _) (.cells #[.int .i64 a, .slice sa l.length sc] 24)
  have HB := Lib.hid B0
  clear hv B0
  have hz := Lib.hid (ZBox.new w a (.slice sa l.length sc) 24)
  by_cases h20 : 20 < l.length
  · have N1 : Hid (zf a l = 4) := Lib.hid (if_pos h20)
    go_enter Tryz.func76, Tryz.ntmps76
    go_wp2
    go_ret
    exact ⟨by rw [N1.out]; rfl, HB.out⟩
  rcases hA : ahB a with _ | _
  · have N1 : Hid (zf a l = 1) := Lib.hid (by unfold zf; rw [if_neg h20, if_pos (of_decide_eq_false hA)])
    go_enter Tryz.func76, Tryz.ntmps76
    go_wp2_with (go_at_call 99; refine (isAhead_any _ _).mono ?_; rintro e w' ⟨rfl, rfl⟩; rw [hA])
    go_ret
    exact ⟨by rw [N1.out]; rfl, HB.out⟩
  have EZ : Hid (zf a l = sfl l l.length) := Lib.hid (by unfold zf; rw [if_neg h20, if_neg (fun q => q (of_decide_eq_true hA))])
  go_enter Tryz.func76, Tryz.ntmps76
  go_wp2_with fail
  generalize w.alloc (.cells #[.int .i64 a, .slice sa l.length sc] 24) = W0 at HB hz ⊢
  refine (isAhead_any _ _).mono ?_
  rintro e w' ⟨rfl, rfl⟩
  rw [hA]
  obtain ⟨z1, z2⟩ := hz.out
  go_wp2_with fail
  clear z1 z2
  go_loopw [21] (fun i wr => ∃ k : Nat, k ≤ l.length ∧ i = .int .i64 k ∧ sfl l k = 0 ∧ Below w'.heap.size w' wr) (fun i _ => l.length - (intOf i).toNat)
  case atStart => exact ⟨0, Nat.zero_le _, rfl, rfl, Below.refl _ _⟩
  case round =>
    obtain ⟨k, hk, rfl, hF, hB⟩ := hrel
    have HF := Lib.hid hF
    have Bw := HB.out.trans (hB.mono HB.out.size)
    have zb := hz.out.on hB
    have zl := zb.lt
    obtain ⟨z1, z2⟩ := zb
    clear hF
    by_cases hlt : k < l.length
    · obtain ⟨_, e', sa', sc', rfl, hc⟩ := HV.out _ Bw
      obtain ⟨rfl, rfl⟩ : sa = sa' ∧ sc = sc' := by simpa using e'
      rcases hc with hc | ⟨b, off, rfl, hc⟩
      · rw [hc] at hlt; simp at hlt
      obtain ⟨k1, k2⟩ := hc k hlt
      have bl := zcell_in k1
      have b1 : b < wr.heap.size := bl
      obtain ⟨x, hx⟩ : ∃ x, x = (l.getD k (0, 0)).1 := ⟨_, rfl⟩
      obtain ⟨y, hy⟩ : ∃ y, y = (l.getD k (0, 0)).2 := ⟨_, rfl⟩
      rw [← hx] at k1
      rw [← hy] at k2
      have HX := Lib.hid hx
      have HY := Lib.hid hy
      have E1 := Lib.hid (fun (g : ¬ sf l k = 0) => EZ.out.trans (sfl_end hlt HF.out g))
      have E0 := Lib.hid (fun (g : sf l k = 0) => (sfl_one HF.out).trans g)
      have AW : Below w'.heap.size w' (wr.alloc (.cells #[.int .i64 x, .int .i64 y] 77)) := hB.alloc hB.size _
      have hBB := Lib.hid AW
      have HBw := Lib.hid Bw
      clear hx hy e' hB Bw bl AW
      by_cases hT : 1 ≤ x ∧ x ≤ 157785119
      case neg =>
        have N1 : Hid (sf l k = 1) := Lib.hid (sf_one (Or.inl (by rw [← HX.out]; exact hT)))
        have N2 : Hid (zf a l = 1) := Lib.hid ((E1.out (by rw [N1.out]; decide)).trans N1.out)
        clear hc
        go_wp2_with fail
        refine (split_no _ _ hT).mono ?_
        rintro e w2 ⟨rfl, rfl⟩
        go_wp2
        go_ret
        exact ⟨by rw [N2.out]; rfl, HBw.out.alloc HBw.out.size _⟩
      obtain ⟨t1, t2⟩ := hT
      by_cases hY : -900 ≤ y ∧ y ≤ 900
      case neg =>
        have N1 : Hid (sf l k = 1) := Lib.hid (sf_one (Or.inr (by rw [← HY.out]; exact hY)))
        have N2 : Hid (zf a l = 1) := Lib.hid ((E1.out (by rw [N1.out]; decide)).trans N1.out)
        have hY' := ahB_no hY
        clear hc hY
        go_wp2_with fail
        refine (split_yes _ _ t1 t2).mono ?_
        rintro e w2 ⟨rfl, rfl⟩
        go_wp2_with (go_at_call 99; refine (isAhead_any _ _).mono ?_; rintro e w3 ⟨rfl, rfl⟩; rw [hY'])
        go_ret
        exact ⟨by rw [N2.out]; rfl, HBw.out.alloc HBw.out.size _⟩
      have hY' := ahB_yes hY
      rcases Nat.eq_zero_or_pos k with h0 | h0
      · subst h0
        simp only [Nat.zero_mul, Nat.add_zero] at k1 k2
        have N1 : Hid (sfl l 1 = 0) := Lib.hid (E0.out (sf_none (by rw [← HX.out, ← HY.out]; exact ⟨⟨t1, t2⟩, hY⟩) (by omega)))
        clear hc hY
        go_wp2_with fail
        refine (split_yes _ _ t1 t2).mono ?_
        rintro e w2 ⟨rfl, rfl⟩
        go_wp2_with (go_at_call 99; refine (isAhead_any _ _).mono ?_; rintro e w3 ⟨rfl, rfl⟩; rw [hY'])
        go_quiet (fail)
        go_wp2
        go_roundw
        case rel => exact ⟨1, by omega, by go_num, N1.out, below_drewN hBB.out _⟩
        case measure => simp [intOf]; omega
      · obtain ⟨j, rfl⟩ : ∃ j, k = j + 1 := ⟨k - 1, by omega⟩
        have k3 := (hc j (by omega)).1
        obtain ⟨p, hp⟩ : ∃ p, p = (l.getD j (0, 0)).1 := ⟨_, rfl⟩
        rw [← hp] at k3
        obtain ⟨p1, p2⟩ := (sf_open (sfl_zero HF.out j (by omega))).1
        rw [← hp] at p1 p2
        have HP := Lib.hid hp
        clear hp
        by_cases hd : x - p < 1440
        · have N1 : Hid (sf l (j + 1) = 7) := Lib.hid (sf_seven (by rw [← HX.out, ← HY.out]; exact ⟨⟨t1, t2⟩, hY⟩) (by rw [Nat.add_sub_cancel, ← HX.out, ← HP.out]; exact ⟨by omega, hd⟩))
          have N2 : Hid (zf a l = 7) := Lib.hid ((E1.out (by rw [N1.out]; decide)).trans N1.out)
          clear hc hY
          go_wp2_with fail
          refine (split_yes _ _ t1 t2).mono ?_
          rintro e w2 ⟨rfl, rfl⟩
          go_wp2_with (go_at_call 99; refine (isAhead_any _ _).mono ?_; rintro e w3 ⟨rfl, rfl⟩; rw [hY'])
          go_quiet (fail)
          go_wp2
          go_ret
          exact ⟨by rw [N2.out]; rfl, below_drewN (HBw.out.alloc HBw.out.size _) _⟩
        · have N1 : Hid (sfl l (j + 1 + 1) = 0) := Lib.hid (E0.out (sf_none (by rw [← HX.out, ← HY.out]; exact ⟨⟨t1, t2⟩, hY⟩) (by rw [Nat.add_sub_cancel, ← HX.out, ← HP.out]; omega)))
          clear hc hY
          go_wp2_with fail
          refine (split_yes _ _ t1 t2).mono ?_
          rintro e w2 ⟨rfl, rfl⟩
          go_wp2_with (go_at_call 99; refine (isAhead_any _ _).mono ?_; rintro e w3 ⟨rfl, rfl⟩; rw [hY'])
          go_quiet (fail)
          go_wp2
          go_roundw
          case rel => exact ⟨j + 1 + 1, by omega, by go_num, N1.out, below_drewN hBB.out _⟩
          case measure => simp [intOf]; omega
    · have N1 : Hid (zf a l = 0) := Lib.hid (by rw [EZ.out, show l.length = k by omega]; exact HF.out)
      go_wp2
      go_ret
      exact ⟨by rw [N1.out]; rfl, Bw⟩
/-- What is wrong with a zone, or else with a time. -/
def zt (a : Int) (l : List (Int × Int)) (t : Int) : Int := if zf a l = 0 then (if isT t = true then 0 else 1) else zf a l
theorem zt_open {a : Int} {l : List (Int × Int)} {t : Int} (h : zt a l t = 0) : zf a l = 0 ∧ 1 ≤ t ∧ t ≤ 157785119 := by
  unfold zt at h
  split at h
  · split at h
    · rename_i g1 g2; exact ⟨g1, of_decide_eq_true g2⟩
    · cases h
  · rename_i g; exact absurd h g
set_option maxHeartbeats 1000000 in
theorem checkBoth_any (a : Int) (l : List (Int × Int)) (v : Value) (t : Int) (w : World) (hv : ZoneIn w v a l) :
    Calls Tryz.prog 160 #[v, .int .i64 t] w fun e w' => e = .returned (fault (zt a l t)) ∧ Below w.heap.size w w' := by
  have HV := Lib.hid (fun W (q : Below w.heap.size w W) => hv.on q)
  obtain ⟨sa, sc, rfl⟩ := hv.form
  have B0 := (Below.refl w.heap.size w).alloc (Nat.le_refl _) (.cells #[.int .i64 a, .slice sa l.length sc] 24)
  have HB := Lib.hid B0
  have KC := Lib.hid (zcheck_any a l _ _ (HV.out _ B0))
  clear hv B0 HV
  go_enter Tryz.func160, Tryz.ntmps160
  go_wp2_with fail
  generalize w.alloc (.cells #[.int .i64 a, .slice sa l.length sc] 24) = W0 at HB KC ⊢
  refine KC.out.mono ?_
  rintro e w1 ⟨rfl, hb⟩
  have B1 := Lib.hid (HB.out.trans (hb.mono HB.out.size))
  clear hb KC HB
  by_cases hf : zf a l = 0
  · by_cases hT : 1 ≤ t ∧ t ≤ 157785119
    · have N1 : Hid (zt a l t = 0) := Lib.hid (by unfold zt; rw [if_pos hf, if_pos (show isT t = true from decide_eq_true hT)])
      rw [hf, show fault 0 = .nilIface from rfl]
      go_wp2_with fail
      refine (split_yes _ _ hT.1 hT.2).mono ?_
      rintro e w2 ⟨rfl, rfl⟩
      go_wp2
      go_ret
      exact ⟨by rw [N1.out]; rfl, B1.out⟩
    · have N1 : Hid (zt a l t = 1) := Lib.hid (by unfold zt; rw [if_pos hf, if_neg (fun q : isT t = true => hT (of_decide_eq_true q))])
      rw [hf, show fault 0 = .nilIface from rfl]
      go_wp2_with fail
      refine (split_no _ _ hT).mono ?_
      rintro e w2 ⟨rfl, rfl⟩
      go_wp2
      go_ret
      exact ⟨by rw [N1.out]; rfl, B1.out⟩
  · have N1 : Hid (zt a l t = zf a l) := Lib.hid (if_neg hf)
    rw [zfault_ne hf]
    have HF := Lib.hid hf
    clear hf
    go_wp2
    go_ret
    exact ⟨by rw [N1.out, zfault_ne HF.out]; rfl, B1.out⟩
/-- What is answered of a number, or of a fault. -/
def NumA (f n : Int) : Ending := .returned (.tuple #[.int .i64 (if f = 0 then n else 0), fault f])
theorem NumA_yes {f n : Int} (h : f = 0) : NumA f n = .returned (.tuple #[.int .i64 n, .nilIface]) := by subst h; rfl
theorem NumA_no {f n : Int} (h : ¬ f = 0) : NumA f n = .returned (.tuple #[.int .i64 0, .iface 64 (.int .i64 f)]) := by unfold NumA; rw [if_neg h, zfault_ne h]
/-- What is wrong with a time here, or with what it is there. -/
def zl (a : Int) (l : List (Int × Int)) (t : Int) : Int := if zt a l t = 0 then (if isT (t + zah a l (beg t l)) = true then 0 else 1) else zt a l t
theorem zl_open {a : Int} {l : List (Int × Int)} {t : Int} (h : zl a l t = 0) : zf a l = 0 ∧ (1 ≤ t ∧ t ≤ 157785119) ∧ (1 ≤ t + zah a l (beg t l) ∧ t + zah a l (beg t l) ≤ 157785119) := by
  unfold zl at h
  split at h
  · split at h
    · rename_i g1 g2
      exact ⟨(zt_open g1).1, (zt_open g1).2, of_decide_eq_true g2⟩
    · cases h
  · rename_i g; exact absurd h g
end Go.Proofs.YtkmmncebekcegaaGreatDoor
