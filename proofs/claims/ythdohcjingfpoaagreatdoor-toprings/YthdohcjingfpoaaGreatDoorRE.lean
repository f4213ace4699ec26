/-
  What is proved here: what clock.Last, IsTime, Split and Add answer, for every input (contracts over the translation).
  What is proved here: what package zone's isAhead, begun, aheadBy, Check, checkBoth, Ahead and Local answer of any zone (contracts over the translation).
  What is proved here: what package zone's Check, checkBoth, Ahead and Local answer of any zone (contracts over the translation).
  What is proved here: what package zone's Twice and World answer of any zone and time (contracts over the translation).
-/
import Derived.Test.YthdohcjingfpoaaGreatDoorBA
import Derived.Test.YthdohcjingfpoaaGreatDoorPU
import Derived.Test.YthdohcjingfpoaaGreatDoorRM
import Derived.Lib.QuietBelow
import Derived.Test.YthdohcjingfpoaaGreatDoorBF
namespace Go.Proofs.YthdohcjingfpoaaGreatDoor
open Go.RowKit Cal

theorem clast_any (w : World) :
    Calls Tryz.prog 88 #[] w fun e w' => e = .returned (.int .i64 157785119) ∧ w' = w := by
  go_enter Tryz.func88, Tryz.ntmps88
  go_wp2_with (go_at_call 22; refine (last_any _).mono ?_; rintro e w' ⟨rfl, rfl⟩)
  go_ret
  exact ⟨rfl, rfl⟩
/-- Is a number a time? -/
def ist (t : Int) : Bool := decide (1 ≤ t ∧ t ≤ 157785119)
theorem ist_yes {t : Int} (h1 : 1 ≤ t) (h2 : t ≤ 157785119) : ist t = true := decide_eq_true ⟨h1, h2⟩
theorem ist_no {t : Int} (h : ¬ (1 ≤ t ∧ t ≤ 157785119)) : ist t = false := decide_eq_false h
theorem isTime_any (t : Int) (w : World) :
    Calls Tryz.prog 51 #[.int .i64 t] w fun e w' => e = .returned (.bool (ist t)) ∧ w' = w := by
  by_cases h : 1 ≤ t
  all_goals
    go_enter Tryz.func51, Tryz.ntmps51
    go_wp2_with (go_at_call 88; refine (clast_any _).mono ?_; rintro e w' ⟨rfl, rfl⟩)
    go_ret
    exact ⟨ret_bool (by unfold ist; rw [Bool.eq_iff_iff]; simp; omega), rfl⟩
theorem split_yes (t : Int) (w : World) (h1 : 1 ≤ t) (h2 : t ≤ 157785119) :
    Calls Tryz.prog 61 #[.int .i64 t] w fun e w' => e = .returned (.tuple #[.int .i64 (t / 1440 + 1), .int .i64 (t % 1440), .nilIface]) ∧ w' = w := by
  have hi := ist_yes h1 h2
  go_enter Tryz.func61, Tryz.ntmps61
  go_wp2_with (go_at_call 51; refine (isTime_any _ _).mono ?_; rintro e w' ⟨rfl, rfl⟩)
  go_ret3
  exact ⟨rfl, rfl⟩
theorem split_no (t : Int) (w : World) (h : ¬ (1 ≤ t ∧ t ≤ 157785119)) :
    Calls Tryz.prog 61 #[.int .i64 t] w fun e w' => e = .returned (.tuple #[.int .i64 0, .int .i64 0, errRange]) ∧ w' = w := by
  have hi := ist_no h
  clear h
  go_enter Tryz.func61, Tryz.ntmps61
  go_wp2_with (go_at_call 51; refine (isTime_any _ _).mono ?_; rintro e w' ⟨rfl, rfl⟩)
  go_ret3
  exact ⟨rfl, rfl⟩
theorem add_yes (t n : Int) (w : World) (h1 : 1 ≤ t) (h2 : t ≤ 157785119) (g1 : 1 ≤ t + n) (g2 : t + n ≤ 157785119) :
    Calls Tryz.prog 192 #[.int .i64 t, .int .i64 n] w fun e w' => e = .returned (.tuple #[.int .i64 (t + n), .nilIface]) ∧ w' = w := by
  have hi := ist_yes h1 h2
  have b1 : ¬ n < 1 - t := by omega
  have b2 : ¬ 157785119 - t < n := by omega
  go_enter Tryz.func192, Tryz.ntmps192
  go_wp2_with (first
    | (go_at_call 51; refine (isTime_any _ _).mono ?_; rintro e w' ⟨rfl, rfl⟩)
    | (go_at_call 88; refine (clast_any _).mono ?_; rintro e w' ⟨rfl, rfl⟩))
  go_ret2
  exact ⟨rfl, rfl⟩
theorem add_no (t n : Int) (w : World) (h : ¬ (1 ≤ t ∧ t ≤ 157785119 ∧ 1 ≤ t + n ∧ t + n ≤ 157785119)) :
    Calls Tryz.prog 192 #[.int .i64 t, .int .i64 n] w fun e w' => e = .returned (.tuple #[.int .i64 0, errRange]) ∧ w' = w := by
  by_cases ht : 1 ≤ t ∧ t ≤ 157785119
  · obtain ⟨h1, h2⟩ := ht
    have hi := ist_yes h1 h2
    by_cases b1 : n < 1 - t
    · clear h
      go_enter Tryz.func192, Tryz.ntmps192
      go_wp2_with (first
        | (go_at_call 51; refine (isTime_any _ _).mono ?_; rintro e w' ⟨rfl, rfl⟩)
        | (go_at_call 88; refine (clast_any _).mono ?_; rintro e w' ⟨rfl, rfl⟩))
      go_ret2
      exact ⟨rfl, rfl⟩
    · have b2 : 157785119 - t < n := by omega
      clear h
      go_enter Tryz.func192, Tryz.ntmps192
      go_wp2_with (first
        | (go_at_call 51; refine (isTime_any _ _).mono ?_; rintro e w' ⟨rfl, rfl⟩)
        | (go_at_call 88; refine (clast_any _).mono ?_; rintro e w' ⟨rfl, rfl⟩))
      go_ret2
      exact ⟨rfl, rfl⟩
  · have hi := ist_no ht
    clear h ht
    go_enter Tryz.func192, Tryz.ntmps192
    go_wp2_with (first
      | (go_at_call 51; refine (isTime_any _ _).mono ?_; rintro e w' ⟨rfl, rfl⟩)
      | (go_at_call 88; refine (clast_any _).mono ?_; rintro e w' ⟨rfl, rfl⟩))
    go_ret2
    exact ⟨rfl, rfl⟩
end Go.Proofs.YthdohcjingfpoaaGreatDoor
namespace Go.Proofs.YthdohcjingfpoaaGreatDoor
open Go.RowKit Cal Txt Zo

/-- A zone's cells lie in a block. -/
def ZBox (W : World) (b : Nat) (a : Int) (vs : Value) : Prop := W.cell? ⟨b, 0, none⟩ = some (.int .i64 a) ∧ W.cell? ⟨b, 1, none⟩ = some vs
theorem ZBox.lt {W : World} {b : Nat} {a : Int} {vs : Value} (h : ZBox W b a vs) : b < W.heap.size := by
  have k := h.1
  rcases Nat.lt_or_ge b W.heap.size with q | q
  · exact q
  · simp [World.cell?, Array.getElem?_eq_none q] at k
theorem ZBox.on {W W' : World} {b : Nat} {a : Int} {vs : Value} (h : ZBox W b a vs) (q : Below W.heap.size W W') : ZBox W' b a vs :=
  ⟨(q.cell (p := ⟨b, 0, none⟩) h.lt).trans h.1, (q.cell (p := ⟨b, 1, none⟩) h.lt).trans h.2⟩
theorem ZBox.new (W : World) (a : Int) (vs : Value) (t : TypeId) : ZBox (W.alloc (.cells #[.int .i64 a, vs] t)) W.heap.size a vs := ⟨by simp, by simp⟩
/-- A value is a zone. -/
def ZoneIn (w : World) (v : Value) (a : Int) (l : List (Int × Int)) : Prop := ∃ vs, v = .agg #[.int .i64 a, vs] ∧ Nths w vs l
theorem ZoneIn.on {w w' : World} {v : Value} {a : Int} {l : List (Int × Int)} (h : ZoneIn w v a l) (q : Below w.heap.size w w') : ZoneIn w' v a l := by
  obtain ⟨vs, e, k⟩ := h
  exact ⟨vs, e, k.on q⟩
theorem ZoneIn.form {w : World} {v : Value} {a : Int} {l : List (Int × Int)} (h : ZoneIn w v a l) : ∃ sa sc, v = .agg #[.int .i64 a, .slice sa l.length sc] := by
  obtain ⟨vs, rfl, sa, sc, rfl, _⟩ := h
  exact ⟨sa, sc, rfl⟩
theorem isT_ist (t : Int) : isT t = ist t := rfl
/-- Is a number one that a zone may be ahead? -/
def ahB (n : Int) : Bool := decide (-900 ≤ n ∧ n ≤ 900)
theorem isAhead_any (n : Int) (w : World) :
    Calls Tryz.prog 60 #[.int .i64 n] w fun e w' => e = .returned (.bool (ahB n)) ∧ w' = w := by
  by_cases h : -900 ≤ n
  all_goals
    go_enter Tryz.func60, Tryz.ntmps60
    go_wp2
    go_ret
    exact ⟨ret_bool (by unfold ahB; rw [Bool.eq_iff_iff]; simp; omega), rfl⟩
set_option maxHeartbeats 1000000 in
theorem begun_any (a : Int) (l : List (Int × Int)) (v : Value) (u : Int) (w : World) (hv : ZoneIn w v a l) (hl : l.length ≤ 1000000000) :
    Calls Tryz.prog 239 #[v, .int .i64 u] w fun e w' => e = .returned (.int .i64 (beg u l)) ∧ Below w.heap.size w w' := by
  have HV := Lib.hid (fun W (q : Below w.heap.size w W) => hv.on q)
  obtain ⟨sa, sc, rfl⟩ := hv.form
  have B0 := (Below.refl w.heap.size w).alloc (Nat.le_refl _) (.cells #[.int .i64 a, .slice sa l.length sc] 24)
  have HB := Lib.hid B0
  have hn := HV.out _ B0
  clear hv B0
  obtain ⟨_, e', sa', sc', rfl, hc⟩ := hn
  obtain ⟨rfl, rfl⟩ : sa = sa' ∧ sc = sc' := by simpa using e'
  have HC := Lib.hid hc
  have hz := Lib.hid (ZBox.new w a (.slice sa l.length sc) 24)
  clear hc e' HV
  go_enter Tryz.func239, Tryz.ntmps239
  go_wp2_with fail
  generalize w.alloc (.cells #[.int .i64 a, .slice sa l.length sc] 24) = W0 at HB HC hz ⊢
  go_loop [5] (fun i => ∃ k : Nat, k ≤ l.length ∧ i = .int .i64 k ∧ ∀ j, j < k → (l.getD j (0, 0)).1 ≤ u) (fun i => l.length - (intOf i).toNat)
  case atStart => exact ⟨0, Nat.zero_le _, rfl, fun j hj => absurd hj (Nat.not_lt_zero _)⟩
  case round =>
    obtain ⟨k, hk, rfl, hF⟩ := hrel
    have HF := Lib.hid hF
    clear hF
    obtain ⟨z1, z2⟩ := hz.out
    by_cases hlt : k < l.length
    · rcases HC.out with hc | ⟨b, off, rfl, hc⟩
      · rw [hc] at hlt; simp at hlt
      have k1 := (hc k hlt).1
      obtain ⟨x, hx⟩ : ∃ x, x = (l.getD k (0, 0)).1 := ⟨_, rfl⟩
      rw [← hx] at k1
      have HX := Lib.hid hx
      clear hc hx
      by_cases hu : x ≤ u
      · have N1 : Hid (∀ j, j < k + 1 → (l.getD j (0, 0)).1 ≤ u) := Lib.hid (fun j hj => by
          rcases Nat.lt_or_ge j k with g | g
          · exact HF.out j g
          · rw [show j = k by omega, ← HX.out]; exact hu)
        go_wp2
        go_round
        case rel => exact ⟨k + 1, by omega, by go_num, N1.out⟩
        case measure => simp [intOf]; omega
      · have N1 : Hid (beg u l = k) := Lib.hid (beg_of (by omega) HF.out (fun _ => by rw [← HX.out]; omega))
        go_wp2
        go_ret
        exact ⟨ret_int (by rw [N1.out]), HB.out⟩
    · have N1 : Hid (beg u l = k) := Lib.hid (beg_of (by omega) HF.out (fun q => absurd q hlt))
      go_wp2
      go_ret
      exact ⟨ret_int (by rw [N1.out]), HB.out⟩
set_option maxHeartbeats 1000000 in
theorem aheadBy_any (a : Int) (l : List (Int × Int)) (v : Value) (k : Nat) (w : World) (hv : ZoneIn w v a l) (hk : k ≤ l.length) (hl : l.length ≤ 1000000000) :
    Calls Tryz.prog 238 #[v, .int .i64 k] w fun e w' => e = .returned (.int .i64 (zah a l k)) ∧ Below w.heap.size w w' := by
  have HV := Lib.hid (fun W (q : Below w.heap.size w W) => hv.on q)
  obtain ⟨sa, sc, rfl⟩ := hv.form
  have B0 := (Below.refl w.heap.size w).alloc (Nat.le_refl _) (.cells #[.int .i64 a, .slice sa l.length sc] 24)
  have HB := Lib.hid B0
  have hn := HV.out _ B0
  clear hv B0
  obtain ⟨_, e', sa', sc', rfl, hc⟩ := hn
  obtain ⟨rfl, rfl⟩ : sa = sa' ∧ sc = sc' := by simpa using e'
  have HC := Lib.hid hc
  clear hc e' HV
  rcases h0 : ((k : Int) == 0) with _ | _
  · have k0 : 0 < k := by have := beq_eq_false_iff_ne.1 h0; omega
    have N1 : Hid (zah a l k = (l.getD (k - 1) (0, 0)).2) := Lib.hid (if_neg (by omega))
    rcases HC.out with hc | ⟨b, off, rfl, hc⟩
    · rw [hc] at hk; simp at hk; omega
    have k1 := (hc (k - 1) (by omega)).2
    obtain ⟨x, hx⟩ : ∃ x, x = (l.getD (k - 1) (0, 0)).2 := ⟨_, rfl⟩
    rw [← hx] at k1
    have HX := Lib.hid hx
    obtain ⟨j, rfl⟩ : ∃ j, k = j + 1 := ⟨k - 1, by omega⟩
    have k1' : (w.alloc (.cells #[.int .i64 a, .slice (some ⟨b, off, none⟩) l.length sc] 24)).cell? ⟨b, off + j * 2 + 1, none⟩ = some (.int .i64 x) := k1
    clear hc hx k1 HC
    go_enter Tryz.func238, Tryz.ntmps238
    go_wp2
    go_ret
    exact ⟨ret_int (by rw [N1.out, HX.out]), HB.out⟩
  · have N1 : Hid (zah a l k = a) := Lib.hid (if_pos (by have := beq_iff_eq.1 h0; omega))
    go_enter Tryz.func238, Tryz.ntmps238
    go_wp2
    go_ret
    exact ⟨ret_int (by rw [N1.out]), HB.out⟩
end Go.Proofs.YthdohcjingfpoaaGreatDoor
namespace Go.Proofs.YthdohcjingfpoaaGreatDoor
open Go.RowKit Cal Txt Zo

theorem zcell_in {W : World} {b o : Nat} {v : Value} (k : W.cell? ⟨b, o, none⟩ = some v) : b < W.heap.size := by
  rcases Nat.lt_or_ge b W.heap.size with q | q
  · exact q
  · simp [World.cell?, Array.getElem?_eq_none q] at k
theorem fault_one : fault 1 = errRange := rfl
theorem zfault_ne {k : Int} (h : ¬ k = 0) : fault k = .iface 86 (.int .i64 k) := if_neg h
theorem ahB_yes {n : Int} (h : -900 ≤ n ∧ n ≤ 900) : ahB n = true := decide_eq_true h
theorem ahB_no {n : Int} (h : ¬ (-900 ≤ n ∧ n ≤ 900)) : ahB n = false := decide_eq_false h
set_option maxRecDepth 100000 in
set_option maxHeartbeats 4000000 in
theorem zcheck_any (a : Int) (l : List (Int × Int)) (v : Value) (w : World) (hv : ZoneIn w v a l) :
    Calls Tryz.prog 27 #[v] w fun e w' => e = .returned (fault (zf a l)) ∧ Below w.heap.size w w' := by
  have HV := Lib.hid (fun W (q : Below w.heap.size w W) => hv.on q)
  obtain ⟨sa, sc, rfl⟩ := hv.form
  have B0 := (Below.refl w.heap.size w).alloc (Nat.le_refl _) (.cells #[.int .i64 a, .slice sa l.length sc] 24)
  have HB := Lib.hid B0
  clear hv B0
  have hz := Lib.hid (ZBox.new w a (.slice sa l.length sc) 24)
  by_cases h20 : 20 < l.length
  · have N1 : Hid (zf a l = 4) := Lib.hid (if_pos h20)
    go_enter Tryz.func27, Tryz.ntmps27
    go_wp2
    go_ret
    exact ⟨by rw [N1.out]; rfl, HB.out⟩
  rcases hA : ahB a with _ | _
  · have N1 : Hid (zf a l = 1) := Lib.hid (by unfold zf; rw [if_neg h20, if_pos (of_decide_eq_false hA)])
    go_enter Tryz.func27, Tryz.ntmps27
    go_wp2_with (go_at_call 60; refine (isAhead_any _ _).mono ?_; rintro e w' ⟨rfl, rfl⟩; rw [hA])
    go_ret
    exact ⟨by rw [N1.out]; rfl, HB.out⟩
  have EZ : Hid (zf a l = sfl l l.length) := Lib.hid (by unfold zf; rw [if_neg h20, if_neg (fun q => q (of_decide_eq_true hA))])
  go_enter Tryz.func27, Tryz.ntmps27
  go_wp2_with fail
  generalize w.alloc (.cells #[.int .i64 a, .slice sa l.length sc] 24) = W0 at HB hz ⊢
  refine (isAhead_any _ _).mono ?_
  rintro e w' ⟨rfl, rfl⟩
  rw [hA]
  obtain ⟨z1, z2⟩ := hz.out
  go_wp2_with fail
  clear z1 z2
  go_loopw [21] (fun i wr => ∃ k : Nat, k ≤ l.length ∧ i = .int .i64 k ∧ sfl l k = 0 ∧ Below w'.heap.size w' wr) (fun i _ => l.length - (intOf i).toNat)
  case atStart => exact ⟨0, Nat.zero_le _, rfl, rfl, Below.refl _ _⟩
  case round =>
    obtain ⟨k, hk, rfl, hF, hB⟩ := hrel
    have HF := Lib.hid hF
    have Bw := HB.out.trans (hB.mono HB.out.size)
    have zb := hz.out.on hB
    have zl := zb.lt
    obtain ⟨z1, z2⟩ := zb
    clear hF
    by_cases hlt : k < l.length
    · obtain ⟨_, e', sa', sc', rfl, hc⟩ := HV.out _ Bw
      obtain ⟨rfl, rfl⟩ : sa = sa' ∧ sc = sc' := by simpa using e'
      rcases hc with hc | ⟨b, off, rfl, hc⟩
      · rw [hc] at hlt; simp at hlt
      obtain ⟨k1, k2⟩ := hc k hlt
      have bl := zcell_in k1
      have b1 : b < wr.heap.size := bl
      obtain ⟨x, hx⟩ : ∃ x, x = (l.getD k (0, 0)).1 := ⟨_, rfl⟩
      obtain ⟨y, hy⟩ : ∃ y, y = (l.getD k (0, 0)).2 := ⟨_, rfl⟩
      rw [← hx] at k1
      rw [← hy] at k2
      have HX := Lib.hid hx
      have HY := Lib.hid hy
      have E1 := Lib.hid (fun (g : ¬ sf l k = 0) => EZ.out.trans (sfl_end hlt HF.out g))
      have E0 := Lib.hid (fun (g : sf l k = 0) => (sfl_one HF.out).trans g)
      have AW : Below w'.heap.size w' (wr.alloc (.cells #[.int .i64 x, .int .i64 y] 79)) := hB.alloc hB.size _
      have hBB := Lib.hid AW
      have HBw := Lib.hid Bw
      clear hx hy e' hB Bw bl AW
      by_cases hT : 1 ≤ x ∧ x ≤ 157785119
      case neg =>
        have N1 : Hid (sf l k = 1) := Lib.hid (sf_one (Or.inl (by rw [← HX.out]; exact hT)))
        have N2 : Hid (zf a l = 1) := Lib.hid ((E1.out (by rw [N1.out]; decide)).trans N1.out)
        clear hc
        go_wp2_with fail
        refine (split_no _ _ hT).mono ?_
        rintro e w2 ⟨rfl, rfl⟩
        go_wp2
        go_ret
        exact ⟨by rw [N2.out]; rfl, HBw.out.alloc HBw.out.size _⟩
      obtain ⟨t1, t2⟩ := hT
      by_cases hY : -900 ≤ y ∧ y ≤ 900
      case neg =>
        have N1 : Hid (sf l k = 1) := Lib.hid (sf_one (Or.inr (by rw [← HY.out]; exact hY)))
        have N2 : Hid (zf a l = 1) := Lib.hid ((E1.out (by rw [N1.out]; decide)).trans N1.out)
        have hY' := ahB_no hY
        clear hc hY
        go_wp2_with fail
        refine (split_yes _ _ t1 t2).mono ?_
        rintro e w2 ⟨rfl, rfl⟩
        go_wp2_with (go_at_call 60; refine (isAhead_any _ _).mono ?_; rintro e w3 ⟨rfl, rfl⟩; rw [hY'])
        go_ret
        exact ⟨by rw [N2.out]; rfl, HBw.out.alloc HBw.out.size _⟩
      have hY' := ahB_yes hY
      rcases Nat.eq_zero_or_pos k with h0 | h0
      · subst h0
        simp only [Nat.zero_mul, Nat.add_zero] at k1 k2
        have N1 : Hid (sfl l 1 = 0) := Lib.hid (E0.out (sf_none (by rw [← HX.out, ← HY.out]; exact ⟨⟨t1, t2⟩, hY⟩) (by omega)))
        clear hc hY
        go_wp2_with fail
        refine (split_yes _ _ t1 t2).mono ?_
        rintro e w2 ⟨rfl, rfl⟩
        go_wp2_with (go_at_call 60; refine (isAhead_any _ _).mono ?_; rintro e w3 ⟨rfl, rfl⟩; rw [hY'])
        go_quiet (fail)
        go_wp2
        go_roundw
        case rel => exact ⟨1, by omega, by go_num, N1.out, below_drewN hBB.out _⟩
        case measure => simp [intOf]; omega
      · obtain ⟨j, rfl⟩ : ∃ j, k = j + 1 := ⟨k - 1, by omega⟩
        have k3 := (hc j (by omega)).1
        obtain ⟨p, hp⟩ : ∃ p, p = (l.getD j (0, 0)).1 := ⟨_, rfl⟩
        rw [← hp] at k3
        obtain ⟨p1, p2⟩ := (sf_open (sfl_zero HF.out j (by omega))).1
        rw [← hp] at p1 p2
        have HP := Lib.hid hp
        clear hp
        by_cases hd : x - p < 1440
        · have N1 : Hid (sf l (j + 1) = 7) := Lib.hid (sf_seven (by rw [← HX.out, ← HY.out]; exact ⟨⟨t1, t2⟩, hY⟩) (by rw [Nat.add_sub_cancel, ← HX.out, ← HP.out]; exact ⟨by omega, hd⟩))
          have N2 : Hid (zf a l = 7) := Lib.hid ((E1.out (by rw [N1.out]; decide)).trans N1.out)
          clear hc hY
          go_wp2_with fail
          refine (split_yes _ _ t1 t2).mono ?_
          rintro e w2 ⟨rfl, rfl⟩
          go_wp2_with (go_at_call 60; refine (isAhead_any _ _).mono ?_; rintro e w3 ⟨rfl, rfl⟩; rw [hY'])
          go_quiet (fail)
          go_wp2
          go_ret
          exact ⟨by rw [N2.out]; rfl, below_drewN (HBw.out.alloc HBw.out.size _) _⟩
        · have N1 : Hid (sfl l (j + 1 + 1) = 0) := Lib.hid (E0.out (sf_none (by rw [← HX.out, ← HY.out]; exact ⟨⟨t1, t2⟩, hY⟩) (by rw [Nat.add_sub_cancel, ← HX.out, ← HP.out]; omega)))
          clear hc hY
          go_wp2_with fail
          refine (split_yes _ _ t1 t2).mono ?_
          rintro e w2 ⟨rfl, rfl⟩
          go_wp2_with (go_at_call 60; refine (isAhead_any _ _).mono ?_; rintro e w3 ⟨rfl, rfl⟩; rw [hY'])
          go_quiet (fail)
          go_wp2
          go_roundw
          case rel => exact ⟨j + 1 + 1, by omega, by go_num, N1.out, below_drewN hBB.out _⟩
          case measure => simp [intOf]; omega
    · have N1 : Hid (zf a l = 0) := Lib.hid (by rw [EZ.out, show l.length = k by omega]; exact HF.out)
      go_wp2
      go_ret
      exact ⟨by rw [N1.out]; rfl, Bw⟩
/-- What is wrong with a zone, or else with a time. -/
def zt (a : Int) (l : List (Int × Int)) (t : Int) : Int := if zf a l = 0 then (if isT t = true then 0 else 1) else zf a l
theorem zt_open {a : Int} {l : List (Int × Int)} {t : Int} (h : zt a l t = 0) : zf a l = 0 ∧ 1 ≤ t ∧ t ≤ 157785119 := by
  unfold zt at h
  split at h
  · split at h
    · rename_i g1 g2; exact ⟨g1, of_decide_eq_true g2⟩
    · cases h
  · rename_i g; exact absurd h g
set_option maxHeartbeats 1000000 in
theorem checkBoth_any (a : Int) (l : List (Int × Int)) (v : Value) (t : Int) (w : World) (hv : ZoneIn w v a l) :
    Calls Tryz.prog 237 #[v, .int .i64 t] w fun e w' => e = .returned (fault (zt a l t)) ∧ Below w.heap.size w w' := by
  have HV := Lib.hid (fun W (q : Below w.heap.size w W) => hv.on q)
  obtain ⟨sa, sc, rfl⟩ := hv.form
  have B0 := (Below.refl w.heap.size w).alloc (Nat.le_refl _) (.cells #[.int .i64 a, .slice sa l.length sc] 24)
  have HB := Lib.hid B0
  have KC := Lib.hid (zcheck_any a l _ _ (HV.out _ B0))
  clear hv B0 HV
  go_enter Tryz.func237, Tryz.ntmps237
  go_wp2_with fail
  generalize w.alloc (.cells #[.int .i64 a, .slice sa l.length sc] 24) = W0 at HB KC ⊢
  refine KC.out.mono ?_
  rintro e w1 ⟨rfl, hb⟩
  have B1 := Lib.hid (HB.out.trans (hb.mono HB.out.size))
  clear hb KC HB
  by_cases hf : zf a l = 0
  · by_cases hT : 1 ≤ t ∧ t ≤ 157785119
    · have N1 : Hid (zt a l t = 0) := Lib.hid (by unfold zt; rw [if_pos hf, if_pos (show isT t = true from decide_eq_true hT)])
      rw [hf, show fault 0 = .nilIface from rfl]
      go_wp2_with fail
      refine (split_yes _ _ hT.1 hT.2).mono ?_
      rintro e w2 ⟨rfl, rfl⟩
      go_wp2
      go_ret
      exact ⟨by rw [N1.out]; rfl, B1.out⟩
    · have N1 : Hid (zt a l t = 1) := Lib.hid (by unfold zt; rw [if_pos hf, if_neg (fun q : isT t = true => hT (of_decide_eq_true q))])
      rw [hf, show fault 0 = .nilIface from rfl]
      go_wp2_with fail
      refine (split_no _ _ hT).mono ?_
      rintro e w2 ⟨rfl, rfl⟩
      go_wp2
      go_ret
      exact ⟨by rw [N1.out]; rfl, B1.out⟩
  · have N1 : Hid (zt a l t = zf a l) := Lib.hid (if_neg hf)
    rw [zfault_ne hf]
    have HF := Lib.hid hf
    clear hf
    go_wp2
    go_ret
    exact ⟨by rw [N1.out, zfault_ne HF.out]; rfl, B1.out⟩
/-- What is answered of a number, or of a fault. -/
def NumA (f n : Int) : Ending := .returned (.tuple #[.int .i64 (if f = 0 then n else 0), fault f])
theorem NumA_yes {f n : Int} (h : f = 0) : NumA f n = .returned (.tuple #[.int .i64 n, .nilIface]) := by subst h; rfl
theorem NumA_no {f n : Int} (h : ¬ f = 0) : NumA f n = .returned (.tuple #[.int .i64 0, .iface 86 (.int .i64 f)]) := by unfold NumA; rw [if_neg h, zfault_ne h]
/-- What is wrong with a time here, or with what it is there. -/
def zl (a : Int) (l : List (Int × Int)) (t : Int) : Int := if zt a l t = 0 then (if isT (t + zah a l (beg t l)) = true then 0 else 1) else zt a l t
theorem zl_open {a : Int} {l : List (Int × Int)} {t : Int} (h : zl a l t = 0) : zf a l = 0 ∧ (1 ≤ t ∧ t ≤ 157785119) ∧ (1 ≤ t + zah a l (beg t l) ∧ t + zah a l (beg t l) ≤ 157785119) := by
  unfold zl at h
  split at h
  · split at h
    · rename_i g1 g2
      exact ⟨(zt_open g1).1, (zt_open g1).2, of_decide_eq_true g2⟩
    · cases h
  · rename_i g; exact absurd h g
end Go.Proofs.YthdohcjingfpoaaGreatDoor
namespace Go.Proofs.YthdohcjingfpoaaGreatDoor
open Go.RowKit Cal Txt Zo

theorem info_zint : (Tryz.prog.info? 3).map (fun i => (i.zero, i.size, i.bytes)) = some (some (.int .i64 0), 1, 8) := by kernel_rfl
/-- What is answered of a list, or of a fault. -/
def LsA (w : World) (f : Int) (xs : List Int) (e : Ending) (w' : World) : Prop :=
  Below w.heap.size w w' ∧ ((f ≠ 0 ∧ e = .returned (.tuple #[.slice none 0 0, .iface 86 (.int .i64 f)])) ∨ (f = 0 ∧ ∃ v, e = .returned (.tuple #[v, .nilIface]) ∧ Ints w' v xs))
set_option maxRecDepth 100000 in
set_option maxHeartbeats 4000000 in
theorem ztwice_any (a : Int) (l : List (Int × Int)) (v : Value) (t : Int) (w : World) (hv : ZoneIn w v a l) :
    Calls Tryz.prog 213 #[v, .int .i64 t] w (LsA w (zt a l t) (twi a l t)) := by
  obtain ⟨i0, hi, hz0, hz1, hz2⟩ := info_parts info_zint
  have HV := Lib.hid (fun W (q : Below w.heap.size w W) => hv.on q)
  obtain ⟨sa, sc, rfl⟩ := hv.form
  have B0 := (Below.refl w.heap.size w).alloc (Nat.le_refl _) (.cells #[.int .i64 a, .slice sa l.length sc] 24)
  have HB := Lib.hid B0
  have hz := Lib.hid (ZBox.new w a (.slice sa l.length sc) 24)
  have KC := Lib.hid (checkBoth_any a l _ t _ (HV.out _ B0))
  clear hv B0
  go_enter Tryz.func213, Tryz.ntmps213
  go_wp2_with fail
  generalize w.alloc (.cells #[.int .i64 a, .slice sa l.length sc] 24) = W0 at HB KC hz ⊢
  refine KC.out.mono ?_
  rintro e w1 ⟨rfl, hb⟩
  have B1 := Lib.hid (HB.out.trans (hb.mono HB.out.size))
  have z1 := hz.out.on hb
  clear hb KC HB hz
  by_cases hf : zt a l t = 0
  case neg =>
    rw [zfault_ne hf]
    have HF := Lib.hid hf
    clear hf z1
    go_wp2
    exact bodyPost_ret (v := .tuple #[.slice none 0 0, .iface 86 (.int .i64 (zt a l t))]) (by simp [results, Tryz.results213, go_sem]) rfl ⟨B1.out, Or.inl ⟨HF.out, rfl⟩⟩
  have HF := Lib.hid hf
  obtain ⟨hz, t1, t2⟩ := zt_open hf
  have LL := (zf_open hz).1
  have ZA := Lib.hid (fun k (q : k ≤ l.length) => zah_in hz q)
  rw [hf, show fault 0 = .nilIface from rfl]
  clear hf hz
  have HZ := Lib.hid z1
  obtain ⟨q1, q2⟩ := z1
  go_wp2_with fail
  clear q1 q2
  go_loopw [7, 21] (fun lv i wr => ∃ k : Nat, k ≤ l.length + 1 ∧ i = .int .i64 k ∧ wr.ownsRow w1.heap.size 3 1 lv (twc a l t k).length (nums (twc a l t k)) ∧ Below w1.heap.size w1 wr) (fun _ i _ => l.length + 1 - (intOf i).toNat)
  case atStart => exact ⟨0, Nat.zero_le _, rfl, World.ownsRow_nil _ _ _ _, Below.refl _ _⟩
  case round =>
    obtain ⟨k, hk, rfl, hown, hB⟩ := hrel
    have HO := Lib.hid hown
    have Bw := B1.out.trans (hB.mono B1.out.size)
    have zb := HZ.out.on hB
    have zlt := zb.lt
    obtain ⟨z1, z2⟩ := zb
    clear hown
    by_cases hlt : k < l.length + 1
    · have KA := Lib.hid (aheadBy_any a l _ k wr (HV.out _ Bw) (by omega) (by omega))
      obtain ⟨za1, za2⟩ := ZA.out k (by omega)
      have PK := twc_len a l t k
      obtain ⟨z, hz⟩ : ∃ z, z = zah a l k := ⟨_, rfl⟩
      have N0 : Hid (hit a l t k = (isT (t - z) && (beg (t - z) l == k))) := Lib.hid (by rw [hz]; rfl)
      have N1 : Hid (∀ b, hit a l t k = b → twc a l t (k + 1) = if b = true then twc a l t k ++ [t - z] else twc a l t k) := Lib.hid (fun b hb => by rw [hz, ← hb]; rfl)
      rw [← hz] at KA za1 za2
      have HBB := Lib.hid hB
      clear hz hB
      generalize hs : twc a l t k = xs at HO N1 PK
      clear hs
      go_wp2_with fail
      refine KA.out.mono ?_
      rintro e w2 ⟨rfl, hb⟩
      have HO2 := Lib.hid (ow_below HO.out hb)
      have B2 := Lib.hid (HBB.out.trans (hb.mono HBB.out.size))
      have Bw2 := Bw.trans (hb.mono Bw.size)
      have zb2 : ZBox w2 w.heap.size a (.slice sa l.length sc) := ZBox.on ⟨z1, z2⟩ hb
      have zlt2 := zb2.lt
      clear hb KA HO HBB z1 z2 zlt Bw
      by_cases hT : 1 ≤ t + -z ∧ t + -z ≤ 157785119
      · have KB := Lib.hid (begun_any a l _ (t + -z) w2 (HV.out _ Bw2) (by omega))
        obtain ⟨n, hn⟩ : ∃ n, n = beg (t + -z) l := ⟨_, rfl⟩
        have NL := beg_le (t + -z) l
        rw [← hn] at KB NL
        have IT : Hid (isT (t - z) = true) := Lib.hid (decide_eq_true (by omega))
        have HN := Lib.hid hn
        clear hn
        obtain ⟨x1, x2⟩ := zb2
        go_wp2_with fail
        refine (add_yes t (-z) _ t1 t2 hT.1 hT.2).mono ?_
        rintro e w3 ⟨rfl, rfl⟩
        rcases hq : ((n : Int) == (k : Int)) with _ | _
        · have M1 : Hid (twc a l t (k + 1) = xs) := Lib.hid (by
            refine (N1.out false ?_).trans (if_neg (by decide))
            rw [N0.out, IT.out, show t - z = t + -z by omega, ← HN.out]
            have := beq_eq_false_iff_ne.1 hq
            simp; omega)
          go_wp2_with fail
          refine KB.out.mono ?_
          rintro e w4 ⟨rfl, hb⟩
          have HO4 := Lib.hid (ow_below HO2.out hb)
          have B4 := Lib.hid (B2.out.trans (hb.mono B2.out.size))
          clear hb KB HO2 B2 x1 x2 zlt2
          go_wp2
          go_roundw
          case rel => exact ⟨k + 1, by omega, by go_num, by rw [M1.out]; exact HO4.out, B4.out⟩
          case measure => simp [intOf]; omega
        · have M1 : Hid (twc a l t (k + 1) = xs ++ [t + -z]) := Lib.hid (by
            refine (N1.out true ?_).trans ?_
            · rw [N0.out, IT.out, show t - z = t + -z by omega, ← HN.out]
              have := beq_iff_eq.1 hq
              simp; omega
            · rw [if_pos rfl, show t - z = t + -z by omega])
          go_wp2_with fail
          refine KB.out.mono ?_
          rintro e w4 ⟨rfl, hb⟩
          have HO4 := Lib.hid (ow_below HO2.out hb)
          have B4 := B2.out.trans (hb.mono B2.out.size)
          have sz := B4.size
          have HB4 := Lib.hid B4
          clear hb KB HO2 B2 x1 x2 zlt2 B4
          go_wp2_with (at_builtin; refine wpList_append_own _ rfl _ _ 34 rfl w1.heap.size 3 i0 (.int .i64 0) 1 8 Tryz.underlying34 hi hz0 hz1 hz2 rfl (by decide) _ _ _ rfl (HO4.out.alloc _) ⟨w4.heap.size, 0, none⟩ 1 1 [.int .i64 (t + -z)] rfl rfl ?c1 ?c2 ?c3 ?c4 ?c5 ?_)
          case c1 =>
            intro j u hj
            match j, hj with
            | 0, hj => simp at hj; subst hj; simp [Addr.add]
          case c2 => intro u hu; simp at hu; subst hu; rfl
          case c3 => unfold maxLen; omega
          case c4 => omega
          case c5 => simp; omega
          intro v' w5 hown' hgrow _
          have R2 := Lib.hid (ow_grow HB4.out.size HB4.out (Below.refl _ _) HO4.out hgrow)
          have R1 := Lib.hid hown'
          rw [← nums_snoc] at R1
          clear hown' hgrow HO4
          go_wp2
          go_roundw
          case rel => exact ⟨k + 1, by omega, by go_num, by rw [M1.out, List.length_append]; exact R1.out, R2.out⟩
          case measure => simp [intOf]; omega
      · have M1 : Hid (twc a l t (k + 1) = xs) := Lib.hid (by
          refine (N1.out false ?_).trans (if_neg (by decide))
          rw [N0.out, show isT (t - z) = false from decide_eq_false (by omega), Bool.false_and])
        go_wp2_with fail
        refine (add_no t (-z) _ (fun q => hT q.2.2)).mono ?_
        rintro e w3 ⟨rfl, rfl⟩
        clear zb2
        go_wp2
        go_roundw
        case rel => exact ⟨k + 1, by omega, by go_num, by rw [M1.out]; exact HO2.out, B2.out⟩
        case measure => simp [intOf]; omega
    · have RR := Lib.hid (ow_ints HO.out)
      have E1 : Hid (twi a l t = twc a l t k) := Lib.hid (by unfold twi; rw [show l.length + 1 = k by omega])
      go_wp2
      go_ret2
      exact ⟨Bw, Or.inr ⟨HF.out, _, rfl, by rw [E1.out]; exact RR.out⟩⟩
/-- What is wrong where a time of the world is asked for. -/
def zw (a : Int) (l : List (Int × Int)) (t : Int) : Int := if zt a l t = 0 then (if (twi a l t).length = 0 then 8 else 0) else zt a l t
set_option maxHeartbeats 2000000 in
theorem zworld_any (a : Int) (l : List (Int × Int)) (v : Value) (t : Int) (w : World) (hv : ZoneIn w v a l) :
    Calls Tryz.prog 191 #[v, .int .i64 t] w fun e w' => e = NumA (zw a l t) ((twi a l t).getD 0 0) ∧ Below w.heap.size w w' := by
  have HV := Lib.hid (fun W (q : Below w.heap.size w W) => hv.on q)
  obtain ⟨sa, sc, rfl⟩ := hv.form
  have B0 := (Below.refl w.heap.size w).alloc (Nat.le_refl _) (.cells #[.int .i64 a, .slice sa l.length sc] 24)
  have HB := Lib.hid B0
  have KC := Lib.hid (ztwice_any a l _ t _ (HV.out _ B0))
  clear hv B0 HV
  go_enter Tryz.func191, Tryz.ntmps191
  go_wp2_with fail
  generalize w.alloc (.cells #[.int .i64 a, .slice sa l.length sc] 24) = W0 at HB KC ⊢
  refine KC.out.mono ?_
  rintro e w1 ⟨hb, ⟨hf, rfl⟩ | ⟨hf, v1, rfl, hx⟩⟩
  · have B1 := Lib.hid (HB.out.trans (hb.mono HB.out.size))
    have N1 : Hid (zw a l t = zt a l t) := Lib.hid (if_neg hf)
    have HF := Lib.hid hf
    clear hb KC HB hf
    go_wp2
    go_ret2
    exact ⟨by rw [N1.out, NumA_no HF.out]; rfl, B1.out⟩
  · have B1 := Lib.hid (HB.out.trans (hb.mono HB.out.size))
    obtain ⟨av, cv, rfl, hc⟩ := hx
    rcases h0 : (((twi a l t).length : Int) == 0) with _ | _
    · have N1 : Hid (zw a l t = 0) := Lib.hid (by unfold zw; rw [if_pos hf, if_neg (by have := beq_eq_false_iff_ne.1 h0; omega)])
      rcases hc with hc | ⟨b, off, rfl, hc⟩
      · rw [hc] at h0; simp at h0
      have LP : (0 : Int) < ((twi a l t).length : Int) := by have := beq_eq_false_iff_ne.1 h0; omega
      have c0 := hc 0 (by omega)
      rw [Nat.add_zero] at c0
      obtain ⟨x, hx⟩ : ∃ x, x = (twi a l t).getD 0 0 := ⟨_, rfl⟩
      rw [← hx] at c0
      have HX := Lib.hid hx
      clear hb KC HB hf hc hx
      generalize (twi a l t).length = n at h0 LP ⊢
      go_wp2
      go_ret2
      exact ⟨by rw [NumA_yes N1.out, ← HX.out]; rfl, B1.out⟩
    · have N1 : Hid (zw a l t = 8) := Lib.hid (by unfold zw; rw [if_pos hf, if_pos (by have := beq_iff_eq.1 h0; omega)])
      clear hb KC HB hf hc
      generalize (twi a l t).length = n at h0 ⊢
      go_wp2
      go_ret2
      exact ⟨by rw [N1.out, NumA_no (by decide)]; rfl, B1.out⟩
end Go.Proofs.YthdohcjingfpoaaGreatDoor
