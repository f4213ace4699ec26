/-
  What is proved here: what the document's Digits answers (contracts over the translation).
-/
import Derived.Test.YtikpfeaidgeebaaDoorRefTwo
import Derived.Test.YtikpfeaidgeebaaDoorTxtList
namespace Go.Proofs.YtikpfeaidgeebaaDoor
open Go.RowKit Cal Txt

theorem dec_big {n : Nat} (h : ¬ n < 10) : Lib.decDigits n = Lib.decDigits (n / 10) ++ Lib.decDigits (n % 10) := by
  rw [Lib.decDigits_one (i := n % 10) (by omega), Lib.decDigits, dif_neg h]
set_option maxHeartbeats 1000000 in
theorem refDigits_nat (n : Nat) : n ≤ 999999999 → ∀ w : World,
    Calls Tryd.prog 22 #[.int .i64 n] w fun e w' => e = .returned (.string ⟨(Lib.decDigits n).toArray⟩) ∧ w' = w := by
  induction n using Nat.strongRecOn with
  | _ n ih =>
    intro hn w
    by_cases h : (n : Int) < 10
    · have F : Hid ((⟨#[48, 49, 50, 51, 52, 53, 54, 55, 56, 57]⟩ : ByteArray).extract n (n + 1) = ⟨(Lib.decDigits n).toArray⟩) := by
        rw [Lib.decDigits_one (by omega)]; exact dig_one (by omega)
      have h' : (n : Int) + 1 ≤ 10 := by omega
      clear ih
      go_enter Tryd.func22, Tryd.ntmps22
      go_wp2
      go_ret
      exact ⟨ret_ba F.out, rfl⟩
    · have I1 := Lib.hid (ih (n / 10) (by omega) (by omega))
      have I2 := Lib.hid (ih (n % 10) (by omega) (by omega))
      have F : Hid (Lib.decDigits (n / 10) ++ Lib.decDigits (n % 10) = Lib.decDigits n) := by
        exact (dec_big (by omega)).symm
      have l1 : (Lib.decDigits (n / 10)).length ≤ 9 := dec_len _ 8 (by omega)
      have l2 : (Lib.decDigits (n % 10)).length ≤ 9 := dec_len _ 8 (by omega)
      clear ih
      go_enter Tryd.func22, Tryd.ntmps22
      go_wp2_with fail
      have c1 := I1.out w
      rw [show ((n / 10 : Nat) : Int) = (n : Int) / 10 by omega] at c1
      refine c1.mono ?_
      clear c1
      rintro e w' ⟨rfl, hw⟩
      subst hw
      go_wp2_with fail
      have c1 := I2.out w'
      rw [show ((n % 10 : Nat) : Int) = (n : Int) % 10 by omega] at c1
      refine c1.mono ?_
      clear c1
      rintro e w' ⟨rfl, hw⟩
      subst hw
      go_wp2_with fail
      go_ret
      exact ⟨ret_ba ((ba_app _ _).trans (by rw [F.out])), rfl⟩
theorem refDigits_any (n : Int) (w : World) (h0 : 0 ≤ n) (h1 : n ≤ 999999999) :
    Calls Tryd.prog 22 #[.int .i64 n] w fun e w' => e = .returned (.string ⟨(Lib.decDigits n.toNat).toArray⟩) ∧ w' = w := by
  obtain ⟨k, rfl⟩ := Int.eq_ofNat_of_zero_le h0
  rw [Int.toNat_natCast]
  exact refDigits_nat k (by omega) w
theorem dec_app {u : Nat} (h : ¬ u < 10) : 45 :: Lib.decDigits (u / 10) ++ Lib.decDigits (u % 10) = 45 :: Lib.decDigits u := by
  rw [dec_big h]; rfl
set_option maxHeartbeats 1000000 in
theorem refDigits_neg (u : Nat) : 1 ≤ u → u ≤ 999999999 → ∀ w : World,
    Calls Tryd.prog 22 #[.int .i64 (-(u : Int))] w fun e w' => e = .returned (.string ⟨(45 :: Lib.decDigits u).toArray⟩) ∧ w' = w := by
  induction u using Nat.strongRecOn with
  | _ u ih =>
    intro h1 hu w
    by_cases h : u < 10
    · have D := Lib.hid (refDigits_nat u (by omega))
      have l1 : (Lib.decDigits u).length ≤ 9 := dec_len _ 8 (by omega)
      have g : ¬ -(u : Int) < -9 := by omega
      have g0 : -(u : Int) < 0 := by omega
      clear ih
      go_enter Tryd.func22, Tryd.ntmps22
      go_wp2_with fail
      refine (D.out _).mono ?_
      rintro e w' ⟨rfl, hw⟩
      subst hw
      go_wp2_with fail
      go_ret
      exact ⟨ret_ba (ba_app [45] _), rfl⟩
    · have I1 := Lib.hid (ih (u / 10) (by omega) (by omega) (by omega))
      have I2 := Lib.hid (refDigits_nat (u % 10) (by omega))
      have F : Hid (45 :: Lib.decDigits (u / 10) ++ Lib.decDigits (u % 10) = 45 :: Lib.decDigits u) := Lib.hid (dec_app h)
      have l1 : (Lib.decDigits (u / 10)).length ≤ 9 := dec_len _ 8 (by omega)
      have l2 : (Lib.decDigits (u % 10)).length ≤ 9 := dec_len _ 8 (by omega)
      have g : -(u : Int) < -9 := by omega
      have g0 : -(u : Int) < 0 := by omega
      clear ih
      go_enter Tryd.func22, Tryd.ntmps22
      go_wp2_with fail
      have c1 := I1.out w
      rw [show -((u / 10 : Nat) : Int) = -((u : Int) / 10) by omega] at c1
      refine c1.mono ?_
      clear c1
      rintro e w' ⟨rfl, hw⟩
      subst hw
      go_wp2_with fail
      have c1 := I2.out w'
      rw [show ((u % 10 : Nat) : Int) = (u : Int) % 10 by omega] at c1
      refine c1.mono ?_
      clear c1
      rintro e w' ⟨rfl, hw⟩
      subst hw
      go_wp2_with fail
      go_ret
      exact ⟨ret_ba ((ba_app (45 :: Lib.decDigits (u / 10)) _).trans (by rw [F.out])), rfl⟩
theorem refDigits_nt (n : Int) (w : World) (h0 : -999999999 ≤ n) (h1 : n ≤ 999999999) :
    Calls Tryd.prog 22 #[.int .i64 n] w fun e w' => e = .returned (.string ⟨(nt n).toArray⟩) ∧ w' = w := by
  by_cases h : n < 0
  · have := refDigits_neg n.natAbs (by omega) (by omega) w
    rw [show -((n.natAbs : Nat) : Int) = n by omega] at this
    unfold nt
    rw [if_pos h]
    exact this
  · have := refDigits_nat n.natAbs (by omega) w
    rw [show ((n.natAbs : Nat) : Int) = n by omega] at this
    unfold nt
    rw [if_neg h]
    exact this
end Go.Proofs.YtikpfeaidgeebaaDoor
