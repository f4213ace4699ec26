/-
  What is proved here: what slices.Contains answers of numbers, and package period's names and placeOf (contracts over the translation).
-/
import Derived.Test.YtdiijpjfkgnjkadGreatDoorPeEnd
import Derived.Test.YtdiijpjfkgnjkadGreatDoorWkWhich
import Derived.Test.YtdiijpjfkgnjkadGreatDoorBox
namespace Go.Proofs.YtdiijpjfkgnjkadGreatDoor
open Go.RowKit Cal Txt

theorem has_take {l : List Int} {k : Nat} {x : Int} (h : k < l.length) (hn : (l.take k).contains x = false) (hx : ¬ l.getD k 0 = x) : (l.take (k + 1)).contains x = false := by
  rw [List.take_add_one, List.contains_eq_mem] at *
  rw [List.getD_eq_getElem?_getD] at hx
  rw [List.getElem?_eq_getElem h] at hx ⊢
  simp only [Option.getD_some] at hx
  simp only [decide_eq_false_iff_not] at hn ⊢
  simp only [Option.toList_some, List.mem_append, List.mem_singleton, not_or]
  exact ⟨hn, fun e => hx e.symm⟩
theorem has_hit {l : List Int} {k : Nat} {x : Int} (h : k < l.length) (hx : l.getD k 0 = x) : l.contains x = true := by
  rw [List.getD_eq_getElem?_getD, List.getElem?_eq_getElem h] at hx
  simp only [Option.getD_some] at hx
  rw [List.contains_eq_mem, decide_eq_true_iff, ← hx]
  exact List.getElem_mem h
/-- What is answered of where a number stands. -/
def IdxA (l : List Int) (x : Int) (e : Ending) : Prop := ∃ i : Int, e = .returned (.int .i64 i) ∧ decide (i ≥ 0) = l.contains x
set_option maxHeartbeats 1000000 in
theorem index_any (v : Value) (l : List Int) (x : Int) (w : World) (hv : Ints w v l) (hl : l.length ≤ 1000000000) :
    Calls Tryz.prog 154 #[v, .int .i64 x] w fun e w' => IdxA l x e ∧ w' = w := by
  obtain ⟨a, cap, rfl, hc⟩ := hv
  rcases hc with rfl | ⟨b, off, rfl, hc⟩
  · go_enter Tryz.func154, Tryz.ntmps154
    go_wp2
    go_loop [8] (fun i => i = .int .i64 0) (fun _ => 0)
    case atStart => rfl
    case round =>
      subst hrel
      go_wp2
      go_ret
      exact ⟨⟨_, rfl, rfl⟩, rfl⟩
  · have HC := Lib.hid hc
    clear hc
    go_enter Tryz.func154, Tryz.ntmps154
    go_wp2
    go_loop [8] (fun i => ∃ k : Nat, k ≤ l.length ∧ i = .int .i64 k ∧ (l.take k).contains x = false) (fun i => l.length - (intOf i).toNat)
    case atStart => exact ⟨0, Nat.zero_le _, rfl, rfl⟩
    case round =>
      obtain ⟨k, hk, rfl, hF⟩ := hrel
      have HF := Lib.hid hF
      clear hF
      by_cases hlt : k < l.length
      · have ck := HC.out k hlt
        obtain ⟨y, hy⟩ : ∃ y, y = l.getD k 0 := ⟨_, rfl⟩
        rw [← hy] at ck
        have HX := Lib.hid hy
        clear hy
        rcases he : (x == y) with _ | _
        · have N1 := Lib.hid (has_take hlt HF.out (x := x) (by rw [← HX.out]; intro q; rw [q] at he; simp at he))
          go_wp2
          go_round
          case rel => exact ⟨k + 1, by omega, by go_num, N1.out⟩
          case measure => simp [intOf]; omega
        · have N0 := Lib.hid (has_hit hlt (x := x) (by rw [← HX.out]; exact (beq_iff_eq.1 he).symm))
          go_wp2
          go_ret
          exact ⟨⟨_, rfl, by rw [N0.out]; exact decide_eq_true (by omega)⟩, rfl⟩
      · have N1 : Hid (l.contains x = false) := Lib.hid (by have := HF.out; rwa [List.take_of_length_le (by omega)] at this)
        go_wp2
        go_ret
        exact ⟨⟨_, rfl, by rw [N1.out]; decide⟩, rfl⟩
theorem contains_any (v : Value) (l : List Int) (x : Int) (w : World) (hv : Ints w v l) (hl : l.length ≤ 1000000000) :
    Calls Tryz.prog 142 #[v, .int .i64 x] w fun e w' => e = .returned (.bool (l.contains x)) ∧ w' = w := by
  have K := Lib.hid (index_any v l x w hv hl)
  obtain ⟨a, cap, rfl, _⟩ := hv
  go_enter Tryz.func142, Tryz.ntmps142
  go_wp2_with fail
  refine K.out.mono ?_
  rintro e w1 ⟨⟨i, rfl, hi⟩, hw⟩
  subst hw
  have HI := Lib.hid hi
  clear hi
  go_wp2
  go_ret
  exact ⟨ret_bool (by rw [← HI.out]), rfl⟩
theorem names_any (v : Value) (l : List Int) (n c : Int) (w : World) (hv : Ints w v l) (hl : l.length ≤ 1000000000) (n0 : 0 ≤ n) (n1 : n ≤ 1000000000) (c0 : 0 ≤ c) (c1 : c ≤ 1000000000) :
    Calls Tryz.prog 144 #[v, .int .i64 n, .int .i64 c] w fun e w' => e = .returned (.bool (nameB l n c)) ∧ w' = w := by
  have K := Lib.hid (contains_any v l n w hv hl)
  have K2 := Lib.hid (contains_any v l (n - c - 1) w hv hl)
  obtain ⟨a, cap, rfl, _⟩ := hv
  rcases h : l.contains n with _ | _
  · have N1 : Hid (nameB l n c = l.contains (n - c - 1)) := Lib.hid (by unfold nameB; rw [h]; rfl)
    rw [h] at K
    clear h
    go_enter Tryz.func144, Tryz.ntmps144
    go_wp2_with fail
    refine K.out.mono ?_
    rintro e w1 ⟨rfl, hw⟩
    subst hw
    go_wp2_with fail
    refine K2.out.mono ?_
    rintro e w1 ⟨rfl, hw⟩
    subst hw
    go_wp2
    go_ret
    exact ⟨ret_bool (by rw [N1.out, List.contains_eq_mem]), rfl⟩
  · have N1 : Hid (nameB l n c = true) := Lib.hid (by unfold nameB; rw [h]; rfl)
    rw [h] at K
    clear h
    go_enter Tryz.func144, Tryz.ntmps144
    go_wp2_with fail
    refine K.out.mono ?_
    rintro e w1 ⟨rfl, hw⟩
    subst hw
    go_wp2
    go_ret
    exact ⟨ret_bool N1.out.symm, rfl⟩
/-- A place in the calendar, its cells. -/
def PLC (n : Int) : Array Value := #[.int .i64 (yr n), .int .i64 (mo n), .int .i64 (da n), .int .i64 (ml (yr n) (mo n)), .int .i64 ((da n - 1) / 7 + 1), .int .i64 (wd n), .int .i64 (-((ml (yr n) (mo n) - da n) / 7) - 1), .int .i64 (wd n)]
set_option maxRecDepth 100000 in
theorem placeOf_yes (n : Int) (w : World) (hT : Tab w) (h1 : 1 ≤ n) (h2 : n ≤ 109573) :
    Calls Tryz.prog 130 #[.int .i64 n] w fun e w' => e = .returned (.tuple #[.agg (PLC n), .nilIface]) ∧ Below w.heap.size w w' := by
  obtain ⟨y1, y2, m1, m2, d1, d2⟩ := date_ok h1 h2
  have B0 := (Below.refl w.heap.size w).alloc (Nat.le_refl _) (.cells #[.int .i64 0, .int .i64 0, .int .i64 0, .int .i64 0, .int .i64 0, .int .i64 0, .int .i64 0, .int .i64 0] 170)
  have T0 := hT.below B0
  have H0 := bx_new8 w (.int .i64 0) (.int .i64 0) (.int .i64 0) (.int .i64 0) (.int .i64 0) (.int .i64 0) (.int .i64 0) (.int .i64 0) 170
  have z0 : (w.alloc (.cells #[.int .i64 0, .int .i64 0, .int .i64 0, .int .i64 0, .int .i64 0, .int .i64 0, .int .i64 0, .int .i64 0] 170)).heap.size = w.heap.size + 1 := by simp
  have KD := Lib.hid (date_yes n _ T0 h1 h2)
  have HB0 := Lib.hid (And.intro B0 (And.intro T0 H0))
  clear B0 T0 H0 hT
  go_enter Tryz.func130, Tryz.ntmps130
  go_wp2_with fail
  generalize w.alloc (.cells #[.int .i64 0, .int .i64 0, .int .i64 0, .int .i64 0, .int .i64 0, .int .i64 0, .int .i64 0, .int .i64 0] 170) = W0 at HB0 KD z0 ⊢
  refine KD.out.mono ?_
  rintro e w1 ⟨rfl, hb⟩
  obtain ⟨B0, T0, H0⟩ := HB0.out
  have A1 : Below w1.heap.size w1 (w1.alloc (.cells #[.int .i64 (yr n), .int .i64 (mo n), .int .i64 (da n)] 109)) := (Below.refl _ _).alloc (Nat.le_refl _) _
  have s1 : w.heap.size + 1 ≤ w1.heap.size := by have := hb.size; omega
  have B1 := (B0.trans (hb.mono B0.size)).trans (A1.mono (by omega))
  have T1 := (T0.below hb).below A1
  have H1 := bx_on (bx_on H0 hb (by omega)) A1 (by omega)
  have D1 := Dat.new w1 (yr n) (mo n) (da n) 109
  have HB1 := Lib.hid (And.intro B1 (And.intro T1 (And.intro H1 D1)))
  have s2 : w1.heap.size < (w1.alloc (.cells #[.int .i64 (yr n), .int .i64 (mo n), .int .i64 (da n)] 109)).heap.size := by simp
  have KY := Lib.hid (days_yes (yr n) (mo n) _ T1 y1 y2 m1 m2)
  have KW := Lib.hid (which_yes n _ T1 h1 h2)
  clear hb B0 T0 H0 HB0 KD A1 B1 T1 H1 D1
  go_wp2_with fail
  refine KY.out.mono ?_
  rintro e w' ⟨rfl, hw⟩
  subst hw
  go_wp2_with fail
  generalize w1.alloc (.cells #[.int .i64 (yr n), .int .i64 (mo n), .int .i64 (da n)] 109) = W1 at HB1 KW s2 ⊢
  refine KW.out.mono ?_
  rintro e w2 ⟨rfl, hb⟩
  obtain ⟨B1, T1, H1, D1⟩ := HB1.out
  have B2 := B1.trans (hb.mono B1.size)
  have H2 := bx_on H1 hb (by omega)
  have dl := (D1.on hb).lt
  obtain ⟨c1, c2, c3⟩ := D1.on hb
  have B3 := (B2.alloc B2.size (.cells #[.int .i64 ((da n - 1) / 7 + 1), .int .i64 (wd n)] 69)).alloc (by have := B2.size; simp; omega) (.cells #[.int .i64 (-((ml (yr n) (mo n) - da n) / 7) - 1), .int .i64 (wd n)] 69)
  have s3 : w.heap.size < w2.heap.size := by have := hb.size; omega
  have H3 := bx_on (bx_on H2 ((Below.refl _ _).alloc (Nat.le_refl _) (.cells #[.int .i64 ((da n - 1) / 7 + 1), .int .i64 (wd n)] 69)) s3) ((Below.refl _ _).alloc (Nat.le_refl _) (.cells #[.int .i64 (-((ml (yr n) (mo n) - da n) / 7) - 1), .int .i64 (wd n)] 69)) (by simp; omega)
  clear hb B1 T1 H1 D1 HB1 KW KY B2 H2
  go_wp2_with (refine bx_store rfl 170 (.tmp 2) (.tmp 44) rfl w.heap.size #[.int .i64 (yr n), .int .i64 (mo n), .int .i64 (da n), .int .i64 (ml (yr n) (mo n)), .int .i64 ((da n - 1) / 7 + 1), .int .i64 (wd n), .int .i64 (-((ml (yr n) (mo n) - da n) / 7) - 1), .int .i64 (wd n)] rfl rfl H3 (by kernel_rfl) (by simp [Value.oneCell']) B3 (Nat.le_refl _) ?_)
  intro W4 R4 B4
  have r0 := R4 0 _ rfl
  have r1 := R4 1 _ rfl
  have r2 := R4 2 _ rfl
  have r3 := R4 3 _ rfl
  have r4 := R4 4 _ rfl
  have r5 := R4 5 _ rfl
  have r6 := R4 6 _ rfl
  have r7 := R4 7 _ rfl
  simp only [Nat.zero_add] at r0 r1 r2 r3 r4 r5 r6 r7
  clear R4
  go_wp2
  exact bodyPost_ret (v := .tuple #[.agg #[.int .i64 (yr n), .int .i64 (mo n), .int .i64 (da n), .int .i64 (ml (yr n) (mo n)), .int .i64 ((da n - 1) / 7 + 1), .int .i64 (wd n), .int .i64 (-((ml (yr n) (mo n) - da n) / 7) - 1), .int .i64 (wd n)], .nilIface]) (by simp [results, Tryz.results130, go_sem, r0, r1, r2, r3, r4, r5, r6, r7]) rfl ⟨rfl, B4⟩
end Go.Proofs.YtdiijpjfkgnjkadGreatDoor
