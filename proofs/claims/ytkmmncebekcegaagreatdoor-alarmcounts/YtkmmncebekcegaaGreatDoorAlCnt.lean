/-
  What is proved here: the walk of chimelaw4.AlarmCounts: it returns true for every number and alarm, and turns nothing that was there; the table of months is asked as a premise.
-/
import Derived.Test.YtkmmncebekcegaaGreatDoorAlCntP
import Derived.Test.YtkmmncebekcegaaGreatDoorAX
import Derived.Deep.Cut
import Derived.Deep.CutRange
namespace Go.Proofs.YtkmmncebekcegaaGreatDoor
open Go.RowKit Cal Txt

theorem one_alm {w : World} {b : Nat} {x : Al} (h : ABx w b x) : Alms w (.slice (some ⟨b, 0, none⟩) 1 1) [x] :=
  ⟨_, _, rfl, Or.inr ⟨b, 0, rfl, fun i hi => by
    have hi2 : i < 1 := hi
    obtain rfl : i = 0 := by omega
    exact h⟩⟩
theorem one_ev {w : World} {b : Nat} {st n : Int} {x : Al} (h : ABx w b x) : EvB w (ev2 st n x) ⟨.slice none 0 0, .slice none 0 0, .slice none 0 0, .slice none 0 0, .slice none 0 0, .slice none 0 0, .slice none 0 0, .slice (some ⟨b, 0, none⟩) 1 1⟩ :=
  ⟨nil_int _, nil_int _, nil_nth _, nil_int _, nil_int _, nil_int _, nil_nth _, one_alm h⟩
set_option maxRecDepth 100000 in
set_option maxHeartbeats 8000000 in
theorem acount (st o : Int) (b : Bool) (r i : Int) (w : World) (hT : Tab w) :
    Calls Tryz.prog 5 #[.int .i64 st, .agg #[.int .i64 o, .bool b, .int .i64 r, .int .i64 i]] w fun x w' => x = .returned (.bool true) ∧ Below w.heap.size w w' := by
  have b1 : Below w.heap.size w (w.alloc (.cells #[.int .i64 o, .bool b, .int .i64 r, .int .i64 i] 49)) := (Below.refl _ _).alloc (Nat.le_refl _) _
  have z1 : (w.alloc (.cells #[.int .i64 o, .bool b, .int .i64 r, .int .i64 i] 49)).heap.size = w.heap.size + 1 := World.size_alloc _ _
  have b2 : Below (w.alloc (.cells #[.int .i64 o, .bool b, .int .i64 r, .int .i64 i] 49)).heap.size (w.alloc (.cells #[.int .i64 o, .bool b, .int .i64 r, .int .i64 i] 49)) ((w.alloc (.cells #[.int .i64 o, .bool b, .int .i64 r, .int .i64 i] 49)).alloc (.cells #[.int .i64 o, .bool b, .int .i64 r, .int .i64 i] 49)) := (Below.refl _ _).alloc (Nat.le_refl _) _
  have A1 := (ABx.new w (o, b, r, i) 49).on b2
  have A2 := ABx.new (w.alloc (.cells #[.int .i64 o, .bool b, .int .i64 r, .int .i64 i] 49)) (o, b, r, i) 49
  rw [z1] at A2
  dsimp only at A1 A2
  have HB2 := Lib.hid (b1.trans (b2.mono b1.size))
  have HA1 := Lib.hid A1
  have HA2 := Lib.hid A2
  have SZ : Hid (((w.alloc (.cells #[.int .i64 o, .bool b, .int .i64 r, .int .i64 i] 49)).alloc (.cells #[.int .i64 o, .bool b, .int .i64 r, .int .i64 i] 49)).heap.size = w.heap.size + 1 + 1) := Lib.hid (by rw [World.size_alloc, z1])
  have OC : Hid ((ecells (ev2 st 30 (o, b, r, i)) (⟨.slice none 0 0, .slice none 0 0, .slice none 0 0, .slice none 0 0, .slice none 0 0, .slice none 0 0, .slice none 0 0, .slice (some ⟨w.heap.size + 1, 0, none⟩) 1 1⟩ : Evs)).all (fun x => x.oneCell') = true) := Lib.hid (by simp [Value.oneCell'])
  have HT := Lib.hid (fun W (q : Below w.heap.size w W) => hT.below q)
  clear hT b1 z1 b2 A1 A2
  go_enter Tryz.func5, Tryz.ntmps5
  go_upto_region 2 with (refine ev_store ?h1 (.tmp 5) (.tmp 14) ?h2 (w.heap.size + 1 + 1) _ _ ?h3 SZ.out (ev2 st 30 (o, b, r, i)) (⟨.slice none 0 0, .slice none 0 0, .slice none 0 0, .slice none 0 0, .slice none 0 0, .slice none 0 0, .slice none 0 0, .slice (some ⟨w.heap.size + 1, 0, none⟩) 1 1⟩ : Evs) ?h4 ?h5 ?h6 ?h7; (case h1 => rfl); (case h2 => rfl); (case h3 => rfl); (case h4 => exact OC.out); (case h5 => rfl); (case h6 => rfl); intro W1 r1 b1; have Q1 := Lib.hid (And.intro r1 b1); clear r1 b1)
  have B1 := Lib.hid (HB2.out.trans (Q1.out.2.mono HB2.out.size))
  have E1 := Lib.hid Q1.out.1.1
  have A1 := Lib.hid (HA1.out.on Q1.out.2)
  have V1 := Lib.hid (HA2.out.on Q1.out.2)
  have b3 : Below W1.heap.size W1 (W1.alloc (.cells #[.int .i64 0, .bool false, .int .i64 2, .int .i64 5] 49)) := (Below.refl _ _).alloc (Nat.le_refl _) _
  have A3 := ABx.new W1 (0, false, 2, 5) 49
  dsimp only at A3
  have B3 := Lib.hid (B1.out.trans (b3.mono B1.out.size))
  have K := rings_any 0 [] _ (ev2 700 0 (0, false, 2, 5)) (⟨.slice none 0 0, .slice none 0 0, .slice none 0 0, .slice none 0 0, .slice none 0 0, .slice none 0 0, .slice none 0 0, .slice (some ⟨W1.heap.size, 0, none⟩) 1 1⟩ : Evs) 1 2000 (W1.alloc (.cells #[.int .i64 0, .bool false, .int .i64 2, .int .i64 5] 49)) (zone_nil _ 0) (one_ev A3) (HT.out _ B3.out)
  rw [ev7_told.1, ev7_told.2] at K
  have HK := Lib.hid K
  have E3 := Lib.hid (E1.out.on b3)
  have A4 := Lib.hid (A1.out.on b3)
  have V4 := Lib.hid (V1.out.on b3)
  clear HB2 HA1 HA2 SZ OC Q1 E1 A1 V1 B1 K A3 b3
  go_wp2_with fail
  refine HK.out.mono ?_
  rintro x w2 ⟨u, rfl, hb, ow⟩
  rw [efault_0]
  have B2 := Lib.hid (B3.out.trans (hb.mono B3.out.size))
  have E2 := Lib.hid (E3.out.on hb)
  have A2 := Lib.hid (A4.out.on hb)
  have V2 := Lib.hid (V4.out.on hb)
  obtain ⟨a9, c9, rfl, hc⟩ := rowK_at (own_rowK (enc := encR (ev2 700 0 (0, false, 2, 5)).name) (k := 5) (fun _ => rfl) (by decide) ow)
  rcases hc with hc | ⟨bb, off, rfl, hh⟩
  · cases hc
  have k2 : w2.cell? ⟨bb, off + 10, none⟩ = some (.int .i64 710) := (hh 2 (by decide)).1
  have bl := ecell_in k2
  have el : ([(700, 700, 0, 0), (705, 700, 0, 1), (710, 700, 0, 2)] : List Rg).length = 3 := rfl
  rw [el]
  clear hb hh el ow HK B3 E3 A4 V4
  go_upto_region 5 with fail
  clear k2 bl
  by_cases s1 : st < 500000
  · go_wp2
    go_ret
    exact ⟨rfl, B2.out⟩
  by_cases s2 : 150000000 < st
  · go_wp2
    go_ret
    exact ⟨rfl, B2.out⟩
  have K2 := Lib.hid (rings_any 0 [] _ (ev2 st 30 (o, b, r, i)) (⟨.slice none 0 0, .slice none 0 0, .slice none 0 0, .slice none 0 0, .slice none 0 0, .slice none 0 0, .slice none 0 0, .slice (some ⟨w.heap.size + 1, 0, none⟩) 1 1⟩ : Evs) (st - 400000) (st + 400000) w2 (zone_nil _ 0) (one_ev V2.out) (HT.out _ B2.out))
  have TD := Lib.hid (ev2_told (st := st) (x := (o, b, r, i)) (by omega) (by omega))
  generalize raF 0 [] (ev2 st 30 (o, b, r, i)) (st - 400000) (st + 400000) = F at K2 TD
  generalize raL 0 [] (ev2 st 30 (o, b, r, i)) (st - 400000) (st + 400000) = L at K2 TD
  go_wp2_with (refine ev_load (by rfl) (.tmp 5) (by rfl) (w.heap.size + 1 + 1) (ev2 st 30 (o, b, r, i)) (⟨.slice none 0 0, .slice none 0 0, .slice none 0 0, .slice none 0 0, .slice none 0 0, .slice none 0 0, .slice none 0 0, .slice (some ⟨w.heap.size + 1, 0, none⟩) 1 1⟩ : Evs) (by rfl) E2.out ?_)
  refine K2.out.mono ?_
  rintro x w3 ⟨u, rfl, hb, ow⟩
  have B3 := Lib.hid (B2.out.trans (hb.mono B2.out.size))
  have E3 := Lib.hid (E2.out.on hb)
  have A3 := Lib.hid (A2.out.on hb)
  have V3 := Lib.hid (V2.out.on hb)
  have LT := Lib.hid (own_rowK (enc := encR (ev2 st 30 (o, b, r, i)).name) (k := 5) (fun _ => rfl) (by decide) ow)
  obtain ⟨la, lc, rfl, hc⟩ := rowK_at LT.out
  clear hb K2 B2 E2 A2 V2 ow
  by_cases hq : F = 0
  case neg =>
    have NE : Hid (¬ evF (ev2 st 30 (o, b, r, i)) = 0) := Lib.hid (fun z => hq (TD.out.2 z).1)
    have KC := Lib.hid (echeck_any (ev2 st 30 (o, b, r, i)) (⟨.slice none 0 0, .slice none 0 0, .slice none 0 0, .slice none 0 0, .slice none 0 0, .slice none 0 0, .slice none 0 0, .slice (some ⟨w.heap.size + 1, 0, none⟩) 1 1⟩ : Evs) w3 (one_ev V3.out))
    rw [efault_ne hq]
    generalize evF (ev2 st 30 (o, b, r, i)) = EF at NE KC
    clear hq TD hc
    go_wp2_with (refine ev_load (by rfl) (.tmp 5) (by rfl) (w.heap.size + 1 + 1) (ev2 st 30 (o, b, r, i)) (⟨.slice none 0 0, .slice none 0 0, .slice none 0 0, .slice none 0 0, .slice none 0 0, .slice none 0 0, .slice none 0 0, .slice (some ⟨w.heap.size + 1, 0, none⟩) 1 1⟩ : Evs) (by rfl) E3.out ?_)
    refine KC.out.mono ?_
    rintro y w4 ⟨rfl, hb⟩
    have B4 := Lib.hid (B3.out.trans (hb.mono B3.out.size))
    rw [efault_ne NE.out]
    clear hb KC
    go_wp2
    go_ret
    exact ⟨rfl, B4.out⟩
  have h0 : evF (ev2 st 30 (o, b, r, i)) = 0 := Decidable.byContradiction (fun z => TD.out.1 z hq)
  obtain ⟨_, eL, ax⟩ := TD.out.2 h0
  obtain ⟨⟨o1, o2⟩, ⟨r1, r2⟩, ⟨i1, i2⟩, _⟩ := alF_in ax
  have bi := bhd_in (n := 30) ax (by omega) (by omega)
  have ln : L.length = r.toNat + 1 := by rw [eL, rgX_len]
  have LA : Hid (∀ k, k < L.length → L.getD k (0, 0, 0, 0) = (st + bhd 30 (o, b, r, i) + k * i, st, 0, (k : Int))) := Lib.hid (fun k hk => by rw [eL] at hk ⊢; exact rgX_at hk)
  dsimp only at o1 o2 r1 r2 i1 i2
  have HC := Lib.hid hc
  rw [hq, efault_0]
  generalize bhd 30 (o, b, r, i) = BH at LA bi
  have lr : (L.length : Int) = r + 1 := by omega
  have ll : L.length ≤ 6 := by omega
  clear hq h0 eL ax TD hc LT
  obtain ⟨a0, a1, a2, a3⟩ := A3.out
  have al := ecell_in a0
  dsimp only at a0 a1 a2 a3
  have HA3 := Lib.hid A3.out.2.2.2
  go_upto_region 12 with fail
  clear a0 a1 a2 a3 al
  go_cut [10] from 11 to 97 (fun s10 wx => s10 = .int .i64 0 ∧ wx = w3)
  case first =>
    go_wp2
    go_meet
    case rel => exact ⟨rfl, rfl⟩
  case rest =>
  obtain ⟨rfl, hw⟩ := hcut
  replace hw := hw.symm
  subst hw
  go_wp2_with fail
  go_loopw [10] (fun iv wr => ∃ k : Nat, k ≤ L.length ∧ iv = .int .i64 k ∧ Dra w3 wr) (fun iv _ => L.length - (intOf iv).toNat)
  case atStart => exact ⟨0, Nat.zero_le _, rfl, Dra.refl _⟩
  case round =>
    obtain ⟨k, hk, rfl, hD⟩ := hrel
    have HD := Lib.hid hD
    clear hD
    by_cases hlt : k < L.length
    · rcases HC.out with hc | ⟨lb, lo, rfl, hh⟩
      · rw [hc] at hlt; simp at hlt
      have ck := hh k hlt
      rw [LA.out k hlt] at ck
      obtain ⟨c0, _, _, _, c4⟩ := ck
      dsimp only at c0 c4
      obtain ⟨m1, m2⟩ := mul_in (u := k) (x := i) (by omega) i1 i2
      obtain ⟨X, hX⟩ : ∃ X, X = st + BH + (k : Int) * i := ⟨_, rfl⟩
      rw [← hX] at c0
      have x1 : 0 ≤ X := by omega
      have x2 : X ≤ 200000000 := by omega
      have y0 := (HD.out.cell ⟨lb, lo + k * 5, none⟩).trans c0
      have y4 := (HD.out.cell ⟨lb, lo + k * 5 + 4, none⟩).trans c4
      have a3 : wr.cell? ⟨w.heap.size, 3, none⟩ = some (.int .i64 i) := (HD.out.cell ⟨w.heap.size, 3, none⟩).trans HA3.out
      have al := ecell_in a3
      rcases Nat.eq_zero_or_pos k with h0 | h0
      · have d4 : decide ((k : Int) > 0) = false := decide_eq_false (by omega)
        have d5 : decide ((0 : Int) < (k : Int)) = false := decide_eq_false (by omega)
        have d6 : decide (0 < k) = false := decide_eq_false (by omega)
        clear h0 hh c0 c4 hX m1 m2
        go_wp2_with fail
        go_quiet (fail)
        go_wp2
        go_roundw
        case rel => exact ⟨k + 1, by omega, by go_num, HD.out.step _⟩
        case measure => simp [intOf]; omega
      · obtain ⟨j, hj⟩ : ∃ j, k = j + 1 := ⟨k - 1, by omega⟩
        have cj := (hh j (by omega)).1
        rw [LA.out j (by omega)] at cj
        dsimp only at cj
        obtain ⟨n1, n2⟩ := mul_in (u := j) (x := i) (by omega) i1 i2
        obtain ⟨Y, hY⟩ : ∃ Y, Y = st + BH + (j : Int) * i := ⟨_, rfl⟩
        rw [← hY] at cj
        have y1 : 0 ≤ Y := by omega
        have y2 : Y ≤ 200000000 := by omega
        have XY : X - Y = i := by
          rw [hX, hY, hj]
          have : ((j + 1 : Nat) : Int) * i = (j : Int) * i + i := by rw [Int.natCast_add, Int.add_mul]; simp
          omega
        have s3 := (HD.out.cell ⟨lb, lo + j * 5, none⟩).trans cj
        have g1 : (0 : Int) ≤ (k : Int) - 1 := by omega
        have g2 : (k : Int) - 1 < (L.length : Int) := by omega
        have g3 : ((k : Int) - 1).toNat = j := by omega
        have d4 : decide ((k : Int) > 0) = true := decide_eq_true (by omega)
        have d5 : decide ((0 : Int) < (k : Int)) = true := decide_eq_true (by omega)
        have d6 : decide (0 < k) = true := decide_eq_true h0
        have u1 : (X - Y != i) = false := by rw [XY]; simp
        have u2 : (IntKind.i64.wrap (X - Y) != i) = false := by rw [XY, IntKind.wrap_i64]; simp; omega
        have u3 : (wrap64 (X - Y) != i) = false := by rw [XY]; unfold wrap64; simp; omega
        clear hh c0 c4 hX hY m1 m2 n1 n2 cj hj XY
        go_wp2_with fail
        go_quiet (fail)
        go_wp2
        go_roundw
        case rel => exact ⟨k + 1, by omega, by go_num, HD.out.step _⟩
        case measure => simp [intOf]; omega
    · go_wp2
      go_ret
      exact ⟨rfl, B3.out.trans (HD.out.below _)⟩
end Go.Proofs.YtkmmncebekcegaaGreatDoor
