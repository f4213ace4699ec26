/-
  What is proved here: what the functions of the document's answer for days (package chimeref1: Leap, Days, ahead, Of, Date, Weekday) tell, as contracts over the translation.
  What is proved here: what the document's two and ShowDate answer (contracts over the translation).
  What is proved here: what the document's Digits answers (contracts over the translation).
-/
import Derived.Test.YtoafdacgekmomabGreatDoorLow
import Derived.Test.YtoafdacgekmomabGreatDoorQB
namespace Go.Proofs.YtoafdacgekmomabGreatDoor
open Go.RowKit Cal

theorem refLeap_any (y : Int) (w : World) :
    Calls Tryz.prog 68 #[.int .i64 y] w fun e w' => e = .returned (.bool (lp y)) ∧ w' = w := by
  go_enter Tryz.func68, Tryz.ntmps68
  go_wp2
  · go_ret; exact ⟨ret_bool (lp_t1 ‹_› ‹_›), rfl⟩
  · go_ret; exact ⟨ret_bool (lp_t2 ‹_› ‹_›), rfl⟩
  · go_ret; exact ⟨ret_bool (lp_t3 ‹_›), rfl⟩
theorem refDays_no (y m : Int) (w : World) (h : ¬ (1900 ≤ y ∧ y ≤ 2199 ∧ 1 ≤ m ∧ m ≤ 12)) :
    Calls Tryz.prog 49 #[.int .i64 y, .int .i64 m] w fun e w' => e = .returned (.int .i64 0) ∧ w' = w := by
  have hc : y < 1900 ∨ (1900 ≤ y ∧ 2199 < y) ∨ (1900 ≤ y ∧ y ≤ 2199 ∧ m < 1) ∨ (1900 ≤ y ∧ y ≤ 2199 ∧ 1 ≤ m ∧ 12 < m) := by omega
  clear h
  rcases hc with h | ⟨h, g⟩ | ⟨h, g, k⟩ | ⟨h, g, k, l⟩
  all_goals
    go_enter Tryz.func49, Tryz.ntmps49
    go_wp2
    go_ret
    exact ⟨rfl, rfl⟩
set_option maxHeartbeats 2000000 in
theorem refDays_yes (y m : Int) (w : World) (a1 : 1900 ≤ y) (a2 : y ≤ 2199) (h1 : 1 ≤ m) (h2 : m ≤ 12) :
    Calls Tryz.prog 49 #[.int .i64 y, .int .i64 m] w fun e w' => e = .returned (.int .i64 (ml y m)) ∧ w' = w := by
  by_cases hm2 : m = 2
  · subst hm2
    rcases hl : lp y with _ | _
    all_goals
      go_enter Tryz.func49, Tryz.ntmps49
      go_wp2_with (go_at_call 68; refine (refLeap_any _ _).mono ?_; rintro e w' ⟨rfl, rfl⟩)
      go_ret
      exact ⟨ret_int (by simp [ml, lx, hl]), rfl⟩
  · have hc : m = 4 ∨ m = 6 ∨ m = 9 ∨ m = 11 ∨ (¬ m = 4 ∧ ¬ m = 6 ∧ ¬ m = 9 ∧ ¬ m = 11) := by omega
    rcases hc with rfl | rfl | rfl | rfl | ⟨g1, g2, g3, g4⟩
    case inr.inr.inr.inr =>
      have E : ml y m = 31 := by unfold ml md; rw [if_neg hm2, if_neg (by omega), if_neg (by omega)]
      rw [E]
      clear E
      have b1 : (m == 4) = false := by simp [g1]
      have b2 : (m == 6) = false := by simp [g2]
      have b3 : (m == 9) = false := by simp [g3]
      have b4 : (m == 11) = false := by simp [g4]
      have b5 : (m == 2) = false := by simp [hm2]
      go_enter Tryz.func49, Tryz.ntmps49
      go_wp2_with (go_at_call 68; refine (refLeap_any _ _).mono ?_; rintro e w' ⟨rfl, rfl⟩)
      go_ret
      exact ⟨rfl, rfl⟩
    all_goals
      go_enter Tryz.func49, Tryz.ntmps49
      go_wp2
      go_ret
      exact ⟨ret_int (by simp [ml, md]), rfl⟩
theorem ahead_any (y : Int) (w : World) (h0 : 1 ≤ y) (h1 : y ≤ 10000) :
    Calls Tryz.prog 48 #[.int .i64 y] w fun e w' => e = .returned (.int .i64 (bef y)) ∧ w' = w := by
  go_enter Tryz.func48, Tryz.ntmps48
  go_wp2
  go_ret
  exact ⟨ret_int (by unfold bef; omega), rfl⟩
theorem refOf_no (y m d : Int) (w : World) (h : ¬ okD y m d) :
    Calls Tryz.prog 59 #[.agg #[.int .i64 y, .int .i64 m, .int .i64 d]] w fun e w' => e = .returned (.int .i64 0) ∧ Below w.heap.size w w' := by
  by_cases hb : 1900 ≤ y ∧ y ≤ 2199 ∧ 1 ≤ m ∧ m ≤ 12
  · obtain ⟨a, b, c, g⟩ := hb
    have hd : d < 1 ∨ (1 ≤ d ∧ ml y m < d) := by unfold okD at h; omega
    clear h
    rcases hd with k | ⟨k, l⟩
    all_goals
      go_enter Tryz.func59, Tryz.ntmps59
      go_wp2_with (go_at_call 49; refine (refDays_yes _ _ _ a b c g).mono ?_; rintro e w' ⟨rfl, rfl⟩)
      go_ret
      exact ⟨rfl, (Below.refl _ _).alloc (Nat.le_refl _) _⟩
  · clear h
    have hd : d < 1 ∨ (1 ≤ d ∧ 0 < d) := by omega
    rcases hd with k | ⟨k, l⟩
    all_goals
      go_enter Tryz.func59, Tryz.ntmps59
      go_wp2_with (go_at_call 49; refine (refDays_no _ _ _ hb).mono ?_; rintro e w' ⟨rfl, rfl⟩)
      go_ret
      exact ⟨rfl, (Below.refl _ _).alloc (Nat.le_refl _) _⟩
set_option maxHeartbeats 1000000 in
theorem refOf_yes (y m d : Int) (w : World) (h : okD y m d) :
    Calls Tryz.prog 59 #[.agg #[.int .i64 y, .int .i64 m, .int .i64 d]] w fun e w' => e = .returned (.int .i64 (num y m d)) ∧ Below w.heap.size w w' := by
  have hb := bef_bd y h.1 (by have := h.2.1; omega)
  have hml := ml_bd y m
  obtain ⟨a, b, c, g, k, l⟩ := h
  go_enter Tryz.func59, Tryz.ntmps59
  go_wp2_with (go_at_call 49; refine (refDays_yes _ _ _ a b c g).mono ?_; rintro e w' ⟨rfl, rfl⟩)
  go_quiet ((go_at_call 48; exact Calls.quiet_of_same (ahead_any _ _ (by omega) (by omega))))
  go_wp2
  go_loop [4, 5] (fun s i => ∃ k : Int, 1 ≤ k ∧ k ≤ m ∧ i = .int .i64 k ∧ s = .int .i64 (d + bef y + cum y k)) (fun _ i => (13 - intOf i).toNat)
  case atStart => exact ⟨1, by omega, by omega, rfl, by rw [cum_one]; simp⟩
  case round =>
    obtain ⟨k, k1, k2, rfl, rfl⟩ := hrel
    have cb := cum_bd y k k1 (by omega)
    have mb := ml_bd y k
    have CS : Hid (cum y (k + 1) = cum y k + ml y k) := cum_succ y k k1 (by omega)
    by_cases hlt : k < m
    · have k12 : k ≤ 12 := by omega
      go_wp2_with (go_at_call 49; refine (refDays_yes _ _ _ a b k1 k12).mono ?_; rintro e w' ⟨rfl, rfl⟩)
      go_round
      case rel => exact ⟨k + 1, by omega, by omega, rfl, by rw [CS.out]; go_num⟩
      case measure => simp [intOf]; omega
    · have hk : k = m := by omega
      subst hk
      go_wp2
      go_ret
      exact ⟨ret_int (by unfold num; omega), below_drewN ((Below.refl _ _).alloc (Nat.le_refl _) _) _⟩
theorem refDate_no (n : Int) (w : World) (h : ¬ (1 ≤ n ∧ n ≤ 109573)) :
    Calls Tryz.prog 22 #[.int .i64 n] w fun e w' => e = .returned (.tuple #[noDate, .bool false]) ∧ Below w.heap.size w w' := by
  have hd : n < 1 ∨ (1 ≤ n ∧ 109573 < n) := by omega
  clear h
  rcases hd with k | ⟨k, l⟩
  all_goals
    go_enter Tryz.func22, Tryz.ntmps22
    go_wp2
    exact bodyPost_ret (v := .tuple #[noDate, .bool false]) (by simp [results, Tryz.results22, go_sem]) rfl ⟨rfl, by repeat (first | exact Below.refl _ _ | refine Below.setCell ?_ (Nat.le_refl _) _ | refine Below.alloc ?_ (Nat.le_refl _) _)⟩
set_option maxHeartbeats 2000000 in
theorem refDate_yes (n : Int) (w : World) (h1 : 1 ≤ n) (h2 : n ≤ 109573) :
    Calls Tryz.prog 22 #[.int .i64 n] w fun e w' => e = .returned (.tuple #[.agg #[.int .i64 (yr n), .int .i64 (mo n), .int .i64 (da n)], .bool true]) ∧ Below w.heap.size w w' := by
  obtain ⟨g1, g2, g3⟩ := guess n h1 h2
  go_enter Tryz.func22, Tryz.ntmps22
  go_wp2
  go_loop [4] (fun t => ∃ y : Int, 1900 ≤ y ∧ y ≤ 2199 ∧ bef y < n ∧ t = .int .i64 y) (fun t => (2200 - intOf t).toNat)
  case atStart => exact ⟨_, g1, g2, g3, rfl⟩
  case round =>
    clear g1 g2 g3
    obtain ⟨y, a, b, c, rfl⟩ := hrel
    by_cases hlt : bef (y + 1) < n
    · have hy : y < 2199 := by
        rcases Int.lt_or_le y 2199 with q | q
        · exact q
        · have : y = 2199 := by omega
          subst this
          have e : bef (2199 + 1) = 109573 := bef_last
          omega
      go_wp2_with (go_at_call 48; refine (ahead_any _ _ (by omega) (by omega)).mono ?_; rintro e w' ⟨rfl, rfl⟩)
      go_round
      case rel => exact ⟨y + 1, by omega, by omega, hlt, rfl⟩
      case measure => simp [intOf]; omega
    · have Y : yr n = y := yr_of h1 h2 c (by omega)
      subst Y
      have yb := bef_bd (yr n) a (by omega)
      have ys := bef_succ (yr n)
      have yl := lx_01 (yr n)
      have hr : n - bef (yr n) ≤ 365 + lx (yr n) := by omega
      clear ys
      go_wp2_with (go_at_call 48; refine (ahead_any _ _ (by omega) (by omega)).mono ?_; rintro e w' ⟨rfl, rfl⟩)
      go_loop [0, 5] (fun s t => ∃ k : Int, 1 ≤ k ∧ k ≤ 12 ∧ t = .int .i64 k ∧ cum (yr n) k < n - bef (yr n) ∧ s = .int .i64 (n - bef (yr n) - cum (yr n) k)) (fun _ t => (13 - intOf t).toNat)
      case atStart => exact ⟨1, by omega, by omega, rfl, by rw [cum_one]; omega, by rw [cum_one]; simp⟩
      case round =>
        obtain ⟨k, k1, k2, rfl, k3, rfl⟩ := hrel
        have cb := cum_bd (yr n) k k1 (by omega)
        have mb := ml_bd (yr n) k
        have CS : Hid (cum (yr n) (k + 1) = cum (yr n) k + ml (yr n) k) := cum_succ (yr n) k k1 k2
        by_cases hlt : ml (yr n) k < n - bef (yr n) - cum (yr n) k
        · have hk : k < 12 := by
            rcases Int.lt_or_le k 12 with q | q
            · exact q
            · have : k = 12 := by omega
              subst this
              have e1 := CS.out
              have e2 : cum (yr n) (12 + 1) = 365 + lx (yr n) := cum_end (yr n)
              omega
          go_wp2_with (go_at_call 49; refine (refDays_yes _ _ _ a b k1 k2).mono ?_; rintro e w' ⟨rfl, rfl⟩)
          go_round
          case rel => exact ⟨k + 1, by omega, by omega, rfl, by rw [CS.out]; omega, by rw [CS.out]; go_num⟩
          case measure => simp [intOf]; omega
        · have D : Hid (k = mo n ∧ n - bef (yr n) - cum (yr n) k = da n) := date_at h1 h2 k1 k2 k3 (by omega)
          go_wp2_with (go_at_call 49; refine (refDays_yes _ _ _ a b k1 k2).mono ?_; rintro e w' ⟨rfl, rfl⟩)
          refine bodyPost_ret (v := .tuple #[.agg #[.int .i64 (yr n), .int .i64 k, .int .i64 (n - bef (yr n) - cum (yr n) k)], .bool true]) (by simp [results, Tryz.results22, go_sem]) rfl ⟨by rw [D.out.2, D.out.1], ?_⟩
          repeat (first | exact Below.refl _ _ | refine Below.setCell ?_ (Nat.le_refl _) _ | refine Below.alloc ?_ (Nat.le_refl _) _)
end Go.Proofs.YtoafdacgekmomabGreatDoor
namespace Go.Proofs.YtoafdacgekmomabGreatDoor
open Go.RowKit Cal Txt

theorem dig_at : ∀ k : Fin 10, ((⟨#[48, 49, 50, 51, 52, 53, 54, 55, 56, 57]⟩ : ByteArray).extract k.val (k.val + 1)).data.toList = [UInt8.ofNat (48 + k.val)] := by decide +kernel
theorem dig_one {k : Nat} (h : k < 10) : (⟨#[48, 49, 50, 51, 52, 53, 54, 55, 56, 57]⟩ : ByteArray).extract k (k + 1) = ⟨[UInt8.ofNat (48 + k)].toArray⟩ := by
  apply ByteArray.ext; apply Array.ext'; exact dig_at ⟨k, h⟩
set_option maxHeartbeats 1000000 in
theorem refTwo_any (n : Int) (w : World) (h0 : 0 ≤ n) (h1 : n ≤ 100000) :
    Calls Tryz.prog 50 #[.int .i64 n] w fun e w' => e = .returned (.string ⟨(d2 n.toNat).toArray⟩) ∧ Below w.heap.size w w' := by
  have a1 : 0 ≤ n / 10 % 10 := by omega
  have a2 : n / 10 % 10 < 10 := by omega
  have b1 : 0 ≤ n % 10 := by omega
  have b2 : n % 10 < 10 := by omega
  go_enter Tryz.func50, Tryz.ntmps50
  go_wp2
  have FIN : Hid (∀ x y : Nat, n / 10 % 10 = x → n % 10 = y → [UInt8.ofNat (48 + x)] ++ [UInt8.ofNat (48 + y)] = d2 n.toNat) := by
    intro x y hx hy
    unfold d2
    rw [show 48 + n.toNat / 10 % 10 = 48 + x by omega, show 48 + n.toNat % 10 = 48 + y by omega]; rfl
  generalize hX : n / 10 % 10 = X at *
  generalize hY : n % 10 = Y at *
  obtain ⟨x, rfl⟩ := Int.eq_ofNat_of_zero_le a1
  obtain ⟨y, rfl⟩ := Int.eq_ofNat_of_zero_le b1
  have F := Lib.hid (FIN.out x y rfl rfl)
  clear FIN hX hY
  have x1 : ((x : Int) + 1) ≤ 10 := by omega
  have y1 : ((y : Int) + 1) ≤ 10 := by omega
  go_quiet (fail)
  go_wp2
  go_ret
  exact ⟨ret_ba (by rw [dig_one (by omega), dig_one (by omega), ba_app, F.out]), below_drewN (Below.refl _ _) _⟩
theorem showDate_eq (a b c e : List UInt8) : (⟨a.toArray⟩ : ByteArray) ++ ⟨b.toArray⟩ ++ ⟨#[45]⟩ ++ ⟨c.toArray⟩ ++ ⟨#[45]⟩ ++ ⟨e.toArray⟩ = ⟨(a ++ b ++ [45] ++ c ++ [45] ++ e).toArray⟩ := by
  apply ByteArray.ext; simp
/-- The text of a date. -/
def dtx (y m d : Int) : List UInt8 := d2 (y / 100).toNat ++ d2 y.toNat ++ [45] ++ d2 m.toNat ++ [45] ++ d2 d.toNat
set_option maxHeartbeats 1000000 in
theorem showDate_any (y m d : Int) (w : World) (y0 : 0 ≤ y) (y1 : y ≤ 9999) (m0 : 0 ≤ m) (m1 : m ≤ 99) (d0 : 0 ≤ d) (d1 : d ≤ 99) :
    Calls Tryz.prog 23 #[.agg #[.int .i64 y, .int .i64 m, .int .i64 d]] w fun e w' => e = .returned (.string ⟨(dtx y m d).toArray⟩) ∧ Below w.heap.size w w' := by
  have e1 : (d2 (y / 100).toNat).length = 2 := rfl
  have e2 : (d2 y.toNat).length = 2 := rfl
  have e3 : (d2 m.toNat).length = 2 := rfl
  have e4 : (d2 d.toNat).length = 2 := rfl
  go_enter Tryz.func23, Tryz.ntmps23
  go_wp2_with fail
  have D0 := Dat.new w y m d 50
  have B0 : Below w.heap.size w (w.alloc (.cells #[.int .i64 y, .int .i64 m, .int .i64 d] 50)) := (Below.refl _ _).alloc (Nat.le_refl _) _
  refine (refTwo_any _ _ (by omega) (by omega)).mono ?_
  rintro e w1 ⟨rfl, hb⟩
  have D1 := D0.on hb
  have B1 := B0.trans (hb.mono B0.size)
  clear hb D0 B0
  obtain ⟨D_0, D_1, D_2⟩ := id D1
  have D_l := D1.lt
  go_wp2_with fail
  clear D_0 D_1 D_2 D_l
  refine (refTwo_any _ _ (by omega) (by omega)).mono ?_
  rintro e w2 ⟨rfl, hb⟩
  have D2 := D1.on hb
  have B2 := B1.trans (hb.mono B1.size)
  clear hb D1 B1
  obtain ⟨D_0, D_1, D_2⟩ := id D2
  have D_l := D2.lt
  go_wp2_with fail
  clear D_0 D_1 D_2 D_l
  refine (refTwo_any _ _ (by omega) (by omega)).mono ?_
  rintro e w3 ⟨rfl, hb⟩
  have D3 := D2.on hb
  have B3 := B2.trans (hb.mono B2.size)
  clear hb D2 B2
  obtain ⟨D_0, D_1, D_2⟩ := id D3
  have D_l := D3.lt
  go_wp2_with fail
  clear D_0 D_1 D_2 D_l
  refine (refTwo_any _ _ (by omega) (by omega)).mono ?_
  rintro e w4 ⟨rfl, hb⟩
  have B4 := B3.trans (hb.mono B3.size)
  clear hb D3 B3
  go_wp2_with fail
  go_ret
  exact ⟨ret_ba (showDate_eq _ _ _ _), B4⟩
end Go.Proofs.YtoafdacgekmomabGreatDoor
namespace Go.Proofs.YtoafdacgekmomabGreatDoor
open Go.RowKit Cal Txt

theorem dec_big {n : Nat} (h : ¬ n < 10) : Lib.decDigits n = Lib.decDigits (n / 10) ++ Lib.decDigits (n % 10) := by
  rw [Lib.decDigits_one (i := n % 10) (by omega), Lib.decDigits, dif_neg h]
set_option maxHeartbeats 1000000 in
theorem refDigits_nat (n : Nat) : n ≤ 999999999 → ∀ w : World,
    Calls Tryz.prog 21 #[.int .i64 n] w fun e w' => e = .returned (.string ⟨(Lib.decDigits n).toArray⟩) ∧ w' = w := by
  induction n using Nat.strongRecOn with
  | _ n ih =>
    intro hn w
    by_cases h : (n : Int) < 10
    · have F : Hid ((⟨#[48, 49, 50, 51, 52, 53, 54, 55, 56, 57]⟩ : ByteArray).extract n (n + 1) = ⟨(Lib.decDigits n).toArray⟩) := by
        rw [Lib.decDigits_one (by omega)]; exact dig_one (by omega)
      have h' : (n : Int) + 1 ≤ 10 := by omega
      clear ih
      go_enter Tryz.func21, Tryz.ntmps21
      go_wp2
      go_ret
      exact ⟨ret_ba F.out, rfl⟩
    · have I1 := Lib.hid (ih (n / 10) (by omega) (by omega))
      have I2 := Lib.hid (ih (n % 10) (by omega) (by omega))
      have F : Hid (Lib.decDigits (n / 10) ++ Lib.decDigits (n % 10) = Lib.decDigits n) := by
        exact (dec_big (by omega)).symm
      have l1 : (Lib.decDigits (n / 10)).length ≤ 9 := dec_len _ 8 (by omega)
      have l2 : (Lib.decDigits (n % 10)).length ≤ 9 := dec_len _ 8 (by omega)
      clear ih
      go_enter Tryz.func21, Tryz.ntmps21
      go_wp2_with fail
      have c1 := I1.out w
      rw [show ((n / 10 : Nat) : Int) = (n : Int) / 10 by omega] at c1
      refine c1.mono ?_
      clear c1
      rintro e w' ⟨rfl, hw⟩
      subst hw
      go_wp2_with fail
      have c1 := I2.out w'
      rw [show ((n % 10 : Nat) : Int) = (n : Int) % 10 by omega] at c1
      refine c1.mono ?_
      clear c1
      rintro e w' ⟨rfl, hw⟩
      subst hw
      go_wp2_with fail
      go_ret
      exact ⟨ret_ba ((ba_app _ _).trans (by rw [F.out])), rfl⟩
theorem refDigits_any (n : Int) (w : World) (h0 : 0 ≤ n) (h1 : n ≤ 999999999) :
    Calls Tryz.prog 21 #[.int .i64 n] w fun e w' => e = .returned (.string ⟨(Lib.decDigits n.toNat).toArray⟩) ∧ w' = w := by
  obtain ⟨k, rfl⟩ := Int.eq_ofNat_of_zero_le h0
  rw [Int.toNat_natCast]
  exact refDigits_nat k (by omega) w
theorem dec_app {u : Nat} (h : ¬ u < 10) : 45 :: Lib.decDigits (u / 10) ++ Lib.decDigits (u % 10) = 45 :: Lib.decDigits u := by
  rw [dec_big h]; rfl
set_option maxHeartbeats 1000000 in
theorem refDigits_neg (u : Nat) : 1 ≤ u → u ≤ 999999999 → ∀ w : World,
    Calls Tryz.prog 21 #[.int .i64 (-(u : Int))] w fun e w' => e = .returned (.string ⟨(45 :: Lib.decDigits u).toArray⟩) ∧ w' = w := by
  induction u using Nat.strongRecOn with
  | _ u ih =>
    intro h1 hu w
    by_cases h : u < 10
    · have D := Lib.hid (refDigits_nat u (by omega))
      have l1 : (Lib.decDigits u).length ≤ 9 := dec_len _ 8 (by omega)
      have g : ¬ -(u : Int) < -9 := by omega
      have g0 : -(u : Int) < 0 := by omega
      clear ih
      go_enter Tryz.func21, Tryz.ntmps21
      go_wp2_with fail
      refine (D.out _).mono ?_
      rintro e w' ⟨rfl, hw⟩
      subst hw
      go_wp2_with fail
      go_ret
      exact ⟨ret_ba (ba_app [45] _), rfl⟩
    · have I1 := Lib.hid (ih (u / 10) (by omega) (by omega) (by omega))
      have I2 := Lib.hid (refDigits_nat (u % 10) (by omega))
      have F : Hid (45 :: Lib.decDigits (u / 10) ++ Lib.decDigits (u % 10) = 45 :: Lib.decDigits u) := Lib.hid (dec_app h)
      have l1 : (Lib.decDigits (u / 10)).length ≤ 9 := dec_len _ 8 (by omega)
      have l2 : (Lib.decDigits (u % 10)).length ≤ 9 := dec_len _ 8 (by omega)
      have g : -(u : Int) < -9 := by omega
      have g0 : -(u : Int) < 0 := by omega
      clear ih
      go_enter Tryz.func21, Tryz.ntmps21
      go_wp2_with fail
      have c1 := I1.out w
      rw [show -((u / 10 : Nat) : Int) = -((u : Int) / 10) by omega] at c1
      refine c1.mono ?_
      clear c1
      rintro e w' ⟨rfl, hw⟩
      subst hw
      go_wp2_with fail
      have c1 := I2.out w'
      rw [show ((u % 10 : Nat) : Int) = (u : Int) % 10 by omega] at c1
      refine c1.mono ?_
      clear c1
      rintro e w' ⟨rfl, hw⟩
      subst hw
      go_wp2_with fail
      go_ret
      exact ⟨ret_ba ((ba_app (45 :: Lib.decDigits (u / 10)) _).trans (by rw [F.out])), rfl⟩
theorem refDigits_nt (n : Int) (w : World) (h0 : -999999999 ≤ n) (h1 : n ≤ 999999999) :
    Calls Tryz.prog 21 #[.int .i64 n] w fun e w' => e = .returned (.string ⟨(nt n).toArray⟩) ∧ w' = w := by
  by_cases h : n < 0
  · have := refDigits_neg n.natAbs (by omega) (by omega) w
    rw [show -((n.natAbs : Nat) : Int) = n by omega] at this
    unfold nt
    rw [if_pos h]
    exact this
  · have := refDigits_nat n.natAbs (by omega) w
    rw [show ((n.natAbs : Nat) : Int) = n by omega] at this
    unfold nt
    rw [if_neg h]
    exact this
end Go.Proofs.YtoafdacgekmomabGreatDoor
