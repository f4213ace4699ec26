/-
  What is proved here: plain facts on the document's way to tell when it is so in a zone: it is the program's.
  What is proved here: what the document's In answers (a contract over the translation). (PeAsk and PeHolds have the same under other names.)
  What is proved here: what the document's Time, Zone, Ahead and Twice answer of a zone (contracts over the translation).
-/
import Derived.Test.YthdohcjingfpoaaGreatDoorPU
import Derived.Test.YthdohcjingfpoaaGreatDoorRM
import Derived.Test.YthdohcjingfpoaaGreatDoorRE
import Derived.Test.YthdohcjingfpoaaGreatDoorBF
namespace Go.Proofs.YthdohcjingfpoaaGreatDoor
namespace Zo

/-- How far it is ahead by the last of the first shifts that has begun. -/
def lah (a : Int) (l : List (Int × Int)) (u : Int) : Nat → Int
  | 0 => a
  | i + 1 => if (l.getD i (0, 0)).1 ≤ u then (l.getD i (0, 0)).2 else lah a l u i
theorem lah_low {a : Int} {l : List (Int × Int)} {u : Int} : ∀ i, i ≤ beg u l → lah a l u i = zah a l i
  | 0, _ => rfl
  | i + 1, h => by
    unfold lah
    rw [if_pos (beg_all u l i (by omega))]
    rfl
theorem begun_not {l : List (Int × Int)} {u : Int} (h : ∀ j, j < l.length → sf l j = 0) : ∀ m, beg u l + m < l.length → u < (l.getD (beg u l + m) (0, 0)).1
  | 0, q => beg_end u l q
  | m + 1, q => by
    have ih := begun_not (u := u) h m (by omega)
    have := (sf_open (h (beg u l + (m + 1)) q)).2.2 (by omega)
    rw [show beg u l + (m + 1) - 1 = beg u l + m by omega] at this
    omega
theorem lah_high {a : Int} {l : List (Int × Int)} {u : Int} (h : ∀ j, j < l.length → sf l j = 0) : ∀ m, beg u l + m ≤ l.length → lah a l u (beg u l + m) = zah a l (beg u l)
  | 0, _ => lah_low _ (Nat.le_refl _)
  | m + 1, q => by
    show (if (l.getD (beg u l + m) (0, 0)).1 ≤ u then _ else lah a l u (beg u l + m)) = _
    have := begun_not (u := u) h m (by omega)
    rw [if_neg (by omega), lah_high h m (by omega)]
theorem lah_all {a : Int} {l : List (Int × Int)} {u : Int} (h : zf a l = 0) : lah a l u l.length = zah a l (beg u l) := by
  have b := beg_le u l
  have := lah_high (a := a) (u := u) (zf_open h).2.2 (l.length - beg u l) (by omega)
  rw [show beg u l + (l.length - beg u l) = l.length by omega] at this
  exact this
/-- How far it is ahead, each, of none and the first shifts. -/
def ahs (a : Int) (l : List (Int × Int)) (k : Nat) : List Int := a :: (l.take k).map (·.2)
theorem ahs_next (a : Int) (l : List (Int × Int)) (k : Nat) (h : k < l.length) : ahs a l (k + 1) = ahs a l k ++ [(l.getD k (0, 0)).2] := by
  unfold ahs
  rw [List.take_succ_eq_append_getElem h, List.map_append, List.getD_eq_getElem?_getD, List.getElem?_eq_getElem h]
  rfl
theorem ahs_len (a : Int) (l : List (Int × Int)) (k : Nat) (h : k ≤ l.length) : (ahs a l k).length = k + 1 := by
  unfold ahs
  rw [List.length_cons, List.length_map, List.length_take]
  omega
theorem zah_mem (a : Int) (l : List (Int × Int)) (k : Nat) (h : k ≤ l.length) : zah a l k ∈ ahs a l l.length := by
  unfold zah ahs
  split
  · simp
  · rw [List.take_length]
    refine List.mem_cons_of_mem _ ?_
    have hj : k - 1 < l.length := by omega
    rw [List.getD_eq_getElem?_getD, List.getElem?_eq_getElem hj]
    exact List.mem_map.2 ⟨_, List.getElem_mem hj, rfl⟩
/-- Is it so there, that much ahead? -/
def hitD (a : Int) (l : List (Int × Int)) (t n : Int) : Bool := (ahs a l l.length).contains n && (isT (t - n) && (zah a l (beg (t - n) l) == n))
def dtw (a : Int) (l : List (Int × Int)) (t : Int) : Nat → List Int
  | 0 => []
  | c + 1 => if hitD a l t (900 - (c : Int)) = true then dtw a l t c ++ [t - (900 - (c : Int))] else dtw a l t c
theorem dtw_mem {a : Int} {l : List (Int × Int)} {t u : Int} : ∀ {c : Nat}, u ∈ dtw a l t c ↔ (900 - (c : Int) < t - u ∧ t - u ≤ 900) ∧ hitD a l t (t - u) = true
  | 0 => by
    simp only [dtw, List.not_mem_nil, false_iff]
    intro h
    omega
  | c + 1 => by
    have ih := dtw_mem (a := a) (l := l) (t := t) (u := u) (c := c)
    unfold dtw
    split
    · rename_i hh
      rw [List.mem_append, ih]
      constructor
      · rintro (⟨g1, g2⟩ | g)
        · exact ⟨by omega, g2⟩
        · have e : u = t - (900 - (c : Int)) := by simpa using g
          rw [show t - u = 900 - (c : Int) by omega]
          exact ⟨by omega, hh⟩
      · rintro ⟨g1, g2⟩
        by_cases q : t - u = 900 - (c : Int)
        · exact Or.inr (by simp; omega)
        · exact Or.inl ⟨by omega, g2⟩
    · rename_i hh
      rw [ih]
      constructor
      · rintro ⟨g1, g2⟩; exact ⟨by omega, g2⟩
      · rintro ⟨g1, g2⟩
        by_cases q : t - u = 900 - (c : Int)
        · rw [q] at g2; exact absurd g2 hh
        · exact ⟨by omega, g2⟩
theorem dtw_rise (a : Int) (l : List (Int × Int)) (t : Int) : ∀ c, (dtw a l t c).Pairwise (· < ·)
  | 0 => List.Pairwise.nil
  | c + 1 => by
    have ih := dtw_rise a l t c
    unfold dtw
    split
    · rw [List.pairwise_append]
      refine ⟨ih, by simp, fun x hx y hy => ?_⟩
      have e : y = t - (900 - (c : Int)) := by simpa using hy
      have := (dtw_mem.1 hx).1
      omega
    · exact ih
theorem dtw_len (a : Int) (l : List (Int × Int)) (t : Int) : ∀ c, (dtw a l t c).length ≤ c
  | 0 => Nat.le_refl _
  | c + 1 => by
    have ih := dtw_len a l t c
    unfold dtw
    split
    · rw [List.length_append]; simp; omega
    · omega
theorem dtw_twi {a : Int} {l : List (Int × Int)} {t : Int} (h : zf a l = 0) : dtw a l t 1801 = twi a l t := by
  refine rise_ext (dtw_rise a l t _) (twi_rise a l t) fun u => ?_
  rw [dtw_mem, twi_mem]
  have hb := beg_le u l
  have z := zah_in h hb
  have hm := zah_mem a l _ hb
  unfold hitD
  rw [Bool.and_eq_true, Bool.and_eq_true, List.contains_eq_mem, decide_eq_true_iff, show t - (t - u) = u by omega, beq_iff_eq]
  constructor
  · rintro ⟨_, _, g1, g2⟩; exact ⟨g1, by omega⟩
  · rintro ⟨g1, g2⟩
    have e : t - u = zah a l (beg u l) := by omega
    rw [e]
    exact ⟨by omega, hm, g1, rfl⟩
end Zo
end Go.Proofs.YthdohcjingfpoaaGreatDoor
namespace Go.Proofs.YthdohcjingfpoaaGreatDoor
namespace Zo
open Go.RowKit

theorem has_take {l : List Int} {k : Nat} {x : Int} (h : k < l.length) (hn : (l.take k).contains x = false) (hx : ¬ l.getD k 0 = x) : (l.take (k + 1)).contains x = false := by
  rw [List.take_add_one, List.contains_eq_mem] at *
  rw [List.getD_eq_getElem?_getD] at hx
  rw [List.getElem?_eq_getElem h] at hx ⊢
  simp only [Option.getD_some] at hx
  simp only [decide_eq_false_iff_not] at hn ⊢
  simp only [Option.toList_some, List.mem_append, List.mem_singleton, not_or]
  exact ⟨hn, fun e => hx e.symm⟩
theorem has_hit {l : List Int} {k : Nat} {x : Int} (h : k < l.length) (hx : l.getD k 0 = x) : l.contains x = true := by
  rw [List.getD_eq_getElem?_getD, List.getElem?_eq_getElem h] at hx
  simp only [Option.getD_some] at hx
  rw [List.contains_eq_mem, decide_eq_true_iff, ← hx]
  exact List.getElem_mem h
set_option maxHeartbeats 1000000 in
theorem refIn_any (v : Value) (l : List Int) (x : Int) (w : World) (hv : Ints w v l) (hl : l.length ≤ 1000000000) :
    Calls Tryz.prog 186 #[v, .int .i64 x] w fun e w' => e = .returned (.bool (l.contains x)) ∧ w' = w := by
  obtain ⟨a, cap, rfl, hc⟩ := hv
  rcases hc with rfl | ⟨b, off, rfl, hc⟩
  · go_enter Tryz.func186, Tryz.ntmps186
    go_wp2
    go_loop [5] (fun i => i = .int .i64 0) (fun _ => 0)
    case atStart => rfl
    case round =>
      subst hrel
      go_wp2
      go_ret
      exact ⟨rfl, rfl⟩
  · have HC := Lib.hid hc
    clear hc
    go_enter Tryz.func186, Tryz.ntmps186
    go_wp2
    go_loop [5] (fun i => ∃ k : Nat, k ≤ l.length ∧ i = .int .i64 k ∧ (l.take k).contains x = false) (fun i => l.length - (intOf i).toNat)
    case atStart => exact ⟨0, Nat.zero_le _, rfl, rfl⟩
    case round =>
      obtain ⟨k, hk, rfl, hF⟩ := hrel
      have HF := Lib.hid hF
      clear hF
      by_cases hlt : k < l.length
      · have ck := HC.out k hlt
        obtain ⟨y, hy⟩ : ∃ y, y = l.getD k 0 := ⟨_, rfl⟩
        rw [← hy] at ck
        have HX := Lib.hid hy
        clear hy
        rcases he : (y == x) with _ | _
        · have N1 := Lib.hid (has_take hlt HF.out (x := x) (by rw [← HX.out]; intro q; rw [q] at he; simp at he))
          go_wp2
          go_round
          case rel => exact ⟨k + 1, by omega, by go_num, N1.out⟩
          case measure => simp [intOf]; omega
        · have N0 := Lib.hid (has_hit hlt (x := x) (by rw [← HX.out]; exact beq_iff_eq.1 he))
          go_wp2
          go_ret
          exact ⟨ret_bool (by rw [← List.contains_eq_mem, N0.out]), rfl⟩
      · have N1 : Hid (l.contains x = false) := Lib.hid (by have := HF.out; rwa [List.take_of_length_le (by omega)] at this)
        go_wp2
        go_ret
        exact ⟨ret_bool (by rw [← List.contains_eq_mem, N1.out]), rfl⟩
end Zo
end Go.Proofs.YthdohcjingfpoaaGreatDoor
namespace Go.Proofs.YthdohcjingfpoaaGreatDoor
open Go.RowKit Cal Txt Zo

theorem zrefTime (t : Int) (w : World) :
    Calls Tryz.prog 35 #[.int .i64 t] w fun e w' => e = .returned (.bool (isT t)) ∧ w' = w := by
  by_cases h : 1 ≤ t
  all_goals
    go_enter Tryz.func35, Tryz.ntmps35
    go_wp2
    go_ret
    exact ⟨ret_bool (by unfold isT; rw [Bool.eq_iff_iff]; simp; omega), rfl⟩
theorem zrefTime_yes (t : Int) (w : World) (h : 1 ≤ t ∧ t ≤ 157785119) :
    Calls Tryz.prog 35 #[.int .i64 t] w fun e w' => e = .returned (.bool true) ∧ w' = w :=
  (zrefTime t w).mono fun _ _ ⟨h1, h2⟩ => ⟨by rw [h1, show isT t = true from decide_eq_true h], h2⟩
theorem zrefTime_no (t : Int) (w : World) (h : ¬ (1 ≤ t ∧ t ≤ 157785119)) :
    Calls Tryz.prog 35 #[.int .i64 t] w fun e w' => e = .returned (.bool false) ∧ w' = w :=
  (zrefTime t w).mono fun _ _ ⟨h1, h2⟩ => ⟨by rw [h1, show isT t = false from decide_eq_false h], h2⟩
set_option maxRecDepth 100000 in
set_option maxHeartbeats 4000000 in
theorem refZone_any (a : Int) (l : List (Int × Int)) (v : Value) (w : World) (hv : ZoneIn w v a l) :
    Calls Tryz.prog 10 #[v] w fun e w' => e = .returned (.int .i64 (zf a l)) ∧ Below w.heap.size w w' := by
  have HV := Lib.hid (fun W (q : Below w.heap.size w W) => hv.on q)
  obtain ⟨sa, sc, rfl⟩ := hv.form
  have B0 := (Below.refl w.heap.size w).alloc (Nat.le_refl _) (.cells #[.int .i64 a, .slice sa l.length sc] 24)
  have HB := Lib.hid B0
  clear hv B0
  have hz := Lib.hid (ZBox.new w a (.slice sa l.length sc) 24)
  by_cases h20 : 20 < l.length
  · have N1 : Hid (zf a l = 4) := Lib.hid (if_pos h20)
    go_enter Tryz.func10, Tryz.ntmps10
    go_wp2
    go_ret
    exact ⟨ret_int N1.out.symm, HB.out⟩
  by_cases hA : -900 ≤ a ∧ a ≤ 900
  case neg =>
    have N1 : Hid (zf a l = 1) := Lib.hid (by unfold zf; rw [if_neg h20, if_pos hA])
    rcases (by omega : a < -900 ∨ (-900 ≤ a ∧ 900 < a)) with q | ⟨q, q'⟩
    all_goals
      clear hA
      go_enter Tryz.func10, Tryz.ntmps10
      go_wp2
      go_ret
      exact ⟨ret_int N1.out.symm, HB.out⟩
  have EZ : Hid (zf a l = sfl l l.length) := Lib.hid (by unfold zf; rw [if_neg h20, if_neg (fun q => q hA)])
  obtain ⟨A1, A2⟩ := hA
  go_enter Tryz.func10, Tryz.ntmps10
  go_wp2_with fail
  generalize w.alloc (.cells #[.int .i64 a, .slice sa l.length sc] 24) = W0 at HB hz ⊢
  go_loopw [3] (fun i wr => ∃ k : Nat, k ≤ l.length ∧ i = .int .i64 k ∧ sfl l k = 0 ∧ Below W0.heap.size W0 wr) (fun i _ => l.length - (intOf i).toNat)
  case atStart => exact ⟨0, Nat.zero_le _, rfl, rfl, Below.refl _ _⟩
  case round =>
    obtain ⟨k, hk, rfl, hF, hB⟩ := hrel
    have HF := Lib.hid hF
    have Bw := HB.out.trans (hB.mono HB.out.size)
    have zb := hz.out.on hB
    have zl := zb.lt
    obtain ⟨z1, z2⟩ := zb
    clear hF
    by_cases hlt : k < l.length
    · obtain ⟨_, e', sa', sc', rfl, hc⟩ := HV.out _ Bw
      obtain ⟨rfl, rfl⟩ : sa = sa' ∧ sc = sc' := by simpa using e'
      rcases hc with hc | ⟨b, off, rfl, hc⟩
      · rw [hc] at hlt; simp at hlt
      obtain ⟨k1, k2⟩ := hc k hlt
      have bl := zcell_in k1
      have b1 : b < wr.heap.size := bl
      obtain ⟨x, hx⟩ : ∃ x, x = (l.getD k (0, 0)).1 := ⟨_, rfl⟩
      obtain ⟨y, hy⟩ : ∃ y, y = (l.getD k (0, 0)).2 := ⟨_, rfl⟩
      rw [← hx] at k1
      rw [← hy] at k2
      have HX := Lib.hid hx
      have HY := Lib.hid hy
      have E1 := Lib.hid (fun (g : ¬ sf l k = 0) => EZ.out.trans (sfl_end hlt HF.out g))
      have E0 := Lib.hid (fun (g : sf l k = 0) => (sfl_one HF.out).trans g)
      have AW : Below W0.heap.size W0 (wr.alloc (.cells #[.int .i64 x, .int .i64 y] 79)) := hB.alloc hB.size _
      have hBB := Lib.hid AW
      have HBw := Lib.hid Bw
      clear hx hy e' hB Bw bl AW
      by_cases hT : 1 ≤ x ∧ x ≤ 157785119
      case neg =>
        have N1 : Hid (sf l k = 1) := Lib.hid (sf_one (Or.inl (by rw [← HX.out]; exact hT)))
        have N2 : Hid (zf a l = 1) := Lib.hid ((E1.out (by rw [N1.out]; decide)).trans N1.out)
        clear hc
        go_wp2_with fail
        refine (zrefTime_no _ _ hT).mono ?_
        rintro e w2 ⟨rfl, rfl⟩
        go_wp2
        go_ret
        exact ⟨ret_int N2.out.symm, HBw.out.alloc HBw.out.size _⟩
      have hT' := hT
      obtain ⟨t1, t2⟩ := hT'
      by_cases hY : -900 ≤ y ∧ y ≤ 900
      case neg =>
        have N1 : Hid (sf l k = 1) := Lib.hid (sf_one (Or.inr (by rw [← HY.out]; exact hY)))
        have N2 : Hid (zf a l = 1) := Lib.hid ((E1.out (by rw [N1.out]; decide)).trans N1.out)
        rcases (by omega : y < -900 ∨ (-900 ≤ y ∧ 900 < y)) with q | ⟨q, q'⟩
        all_goals
          clear hc hY
          go_wp2_with fail
          refine (zrefTime_yes _ _ hT).mono ?_
          rintro e w2 ⟨rfl, rfl⟩
          go_wp2
          go_ret
          exact ⟨ret_int N2.out.symm, HBw.out.alloc HBw.out.size _⟩
      obtain ⟨y1, y2⟩ := id hY
      rcases Nat.eq_zero_or_pos k with h0 | h0
      · subst h0
        simp only [Nat.zero_mul, Nat.add_zero] at k1 k2
        have N1 : Hid (sfl l 1 = 0) := Lib.hid (E0.out (sf_none (by rw [← HX.out, ← HY.out]; exact ⟨⟨t1, t2⟩, hY⟩) (by omega)))
        clear hc hY
        go_wp2_with fail
        refine (zrefTime_yes _ _ hT).mono ?_
        rintro e w2 ⟨rfl, rfl⟩
        go_wp2_with fail
        go_quiet (fail)
        go_wp2
        go_roundw
        case rel => exact ⟨1, by omega, by go_num, N1.out, below_drewN hBB.out _⟩
        case measure => simp [intOf]; omega
      · obtain ⟨j, rfl⟩ : ∃ j, k = j + 1 := ⟨k - 1, by omega⟩
        have k3 := (hc j (by omega)).1
        obtain ⟨p, hp⟩ : ∃ p, p = (l.getD j (0, 0)).1 := ⟨_, rfl⟩
        rw [← hp] at k3
        obtain ⟨p1, p2⟩ := (sf_open (sfl_zero HF.out j (by omega))).1
        rw [← hp] at p1 p2
        have HP := Lib.hid hp
        clear hp
        by_cases hd : x - p < 1440
        · have N1 : Hid (sf l (j + 1) = 7) := Lib.hid (sf_seven (by rw [← HX.out, ← HY.out]; exact ⟨⟨t1, t2⟩, hY⟩) (by rw [Nat.add_sub_cancel, ← HX.out, ← HP.out]; exact ⟨by omega, hd⟩))
          have N2 : Hid (zf a l = 7) := Lib.hid ((E1.out (by rw [N1.out]; decide)).trans N1.out)
          clear hc hY
          go_wp2_with fail
          refine (zrefTime_yes _ _ hT).mono ?_
          rintro e w2 ⟨rfl, rfl⟩
          go_wp2_with fail
          go_quiet (fail)
          go_wp2
          go_ret
          exact ⟨ret_int N2.out.symm, below_drewN (HBw.out.alloc HBw.out.size _) _⟩
        · have N1 : Hid (sfl l (j + 1 + 1) = 0) := Lib.hid (E0.out (sf_none (by rw [← HX.out, ← HY.out]; exact ⟨⟨t1, t2⟩, hY⟩) (by rw [Nat.add_sub_cancel, ← HX.out, ← HP.out]; omega)))
          clear hc hY
          go_wp2_with fail
          refine (zrefTime_yes _ _ hT).mono ?_
          rintro e w2 ⟨rfl, rfl⟩
          go_wp2_with fail
          go_quiet (fail)
          go_wp2
          go_roundw
          case rel => exact ⟨j + 1 + 1, by omega, by go_num, N1.out, below_drewN hBB.out _⟩
          case measure => simp [intOf]; omega
    · have N1 : Hid (zf a l = 0) := Lib.hid (by rw [EZ.out, show l.length = k by omega]; exact HF.out)
      go_wp2
      go_ret
      exact ⟨ret_int N1.out.symm, Bw⟩
set_option maxHeartbeats 2000000 in
theorem refAhead_any (a : Int) (l : List (Int × Int)) (v : Value) (u : Int) (w : World) (hv : ZoneIn w v a l) (hf : zf a l = 0) :
    Calls Tryz.prog 206 #[v, .int .i64 u] w fun e w' => e = .returned (.int .i64 (zah a l (beg u l))) ∧ Below w.heap.size w w' := by
  have HV := Lib.hid (fun W (q : Below w.heap.size w W) => hv.on q)
  have EA := Lib.hid (lah_all (u := u) hf)
  have LL := (zf_open hf).1
  obtain ⟨sa, sc, rfl⟩ := hv.form
  have B0 := (Below.refl w.heap.size w).alloc (Nat.le_refl _) (.cells #[.int .i64 a, .slice sa l.length sc] 24)
  have HB := Lib.hid B0
  have hn := HV.out _ B0
  have hz := Lib.hid (ZBox.new w a (.slice sa l.length sc) 24)
  clear hv B0 hf
  obtain ⟨_, e', sa', sc', rfl, hc⟩ := hn
  obtain ⟨rfl, rfl⟩ : sa = sa' ∧ sc = sc' := by simpa using e'
  have HC := Lib.hid hc
  clear hc e' HV
  go_enter Tryz.func206, Tryz.ntmps206
  go_wp2_with fail
  generalize w.alloc (.cells #[.int .i64 a, .slice sa l.length sc] 24) = W0 at HB HC hz ⊢
  go_loop [5, 6] (fun n i => ∃ k : Nat, k ≤ l.length ∧ i = .int .i64 k ∧ n = .int .i64 (lah a l u k)) (fun _ i => l.length - (intOf i).toNat)
  case atStart => exact ⟨0, Nat.zero_le _, rfl, rfl⟩
  case round =>
    obtain ⟨k, hk, rfl, rfl⟩ := hrel
    obtain ⟨z1, z2⟩ := hz.out
    have NX := Lib.hid (show lah a l u (k + 1) = if (l.getD k (0, 0)).1 ≤ u then (l.getD k (0, 0)).2 else lah a l u k from rfl)
    obtain ⟨c, hc⟩ : ∃ c, c = lah a l u k := ⟨_, rfl⟩
    rw [← hc] at NX
    rw [← hc]
    by_cases hlt : k < l.length
    · rcases HC.out with hc' | ⟨b, off, rfl, hc'⟩
      · rw [hc'] at hlt; simp at hlt
      obtain ⟨k1, k2⟩ := hc' k hlt
      obtain ⟨x, hx⟩ : ∃ x, x = (l.getD k (0, 0)).1 := ⟨_, rfl⟩
      obtain ⟨y, hy⟩ : ∃ y, y = (l.getD k (0, 0)).2 := ⟨_, rfl⟩
      rw [← hx] at k1
      rw [← hy] at k2
      rw [← hx, ← hy] at NX
      clear hc hc' hx hy
      by_cases hu : x ≤ u
      · have N1 : Hid (lah a l u (k + 1) = y) := Lib.hid (NX.out.trans (if_pos hu))
        go_wp2
        go_round
        case rel => exact ⟨k + 1, by omega, by go_num, by rw [N1.out]⟩
        case measure => simp [intOf]; omega
      · have N1 : Hid (lah a l u (k + 1) = c) := Lib.hid (NX.out.trans (if_neg hu))
        go_wp2
        go_round
        case rel => exact ⟨k + 1, by omega, by go_num, by rw [N1.out]⟩
        case measure => simp [intOf]; omega
    · have N1 : Hid (c = zah a l (beg u l)) := Lib.hid (by rw [hc, show k = l.length by omega]; exact EA.out)
      clear hc
      go_wp2
      go_ret
      exact ⟨ret_int N1.out, HB.out⟩
end Go.Proofs.YthdohcjingfpoaaGreatDoor
