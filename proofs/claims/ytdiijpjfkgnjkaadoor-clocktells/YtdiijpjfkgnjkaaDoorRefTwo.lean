/-
  What is proved here: what the document's two and ShowDate answer (contracts over the translation).
-/
import Derived.Test.YtdiijpjfkgnjkaaDoorRef
import Derived.Test.YtdiijpjfkgnjkaaDoorTxtTime
namespace Go.Proofs.YtdiijpjfkgnjkaaDoor
open Go.RowKit Cal Txt

theorem dig_at : ∀ k : Fin 10, ((⟨#[48, 49, 50, 51, 52, 53, 54, 55, 56, 57]⟩ : ByteArray).extract k.val (k.val + 1)).data.toList = [UInt8.ofNat (48 + k.val)] := by decide +kernel
theorem dig_one {k : Nat} (h : k < 10) : (⟨#[48, 49, 50, 51, 52, 53, 54, 55, 56, 57]⟩ : ByteArray).extract k (k + 1) = ⟨[UInt8.ofNat (48 + k)].toArray⟩ := by
  apply ByteArray.ext; apply Array.ext'; exact dig_at ⟨k, h⟩
set_option maxHeartbeats 1000000 in
theorem refTwo_any (n : Int) (w : World) (h0 : 0 ≤ n) (h1 : n ≤ 100000) :
    Calls Tryd.prog 40 #[.int .i64 n] w fun e w' => e = .returned (.string ⟨(d2 n.toNat).toArray⟩) ∧ Below w.heap.size w w' := by
  have a1 : 0 ≤ n / 10 % 10 := by omega
  have a2 : n / 10 % 10 < 10 := by omega
  have b1 : 0 ≤ n % 10 := by omega
  have b2 : n % 10 < 10 := by omega
  go_enter Tryd.func40, Tryd.ntmps40
  go_wp2
  have FIN : Hid (∀ x y : Nat, n / 10 % 10 = x → n % 10 = y → [UInt8.ofNat (48 + x)] ++ [UInt8.ofNat (48 + y)] = d2 n.toNat) := by
    intro x y hx hy
    unfold d2
    rw [show 48 + n.toNat / 10 % 10 = 48 + x by omega, show 48 + n.toNat % 10 = 48 + y by omega]; rfl
  generalize hX : n / 10 % 10 = X at *
  generalize hY : n % 10 = Y at *
  obtain ⟨x, rfl⟩ := Int.eq_ofNat_of_zero_le a1
  obtain ⟨y, rfl⟩ := Int.eq_ofNat_of_zero_le b1
  have F := Lib.hid (FIN.out x y rfl rfl)
  clear FIN hX hY
  have x1 : ((x : Int) + 1) ≤ 10 := by omega
  have y1 : ((y : Int) + 1) ≤ 10 := by omega
  go_quiet (fail)
  go_wp2
  go_ret
  exact ⟨ret_ba (by rw [dig_one (by omega), dig_one (by omega), ba_app, F.out]), below_drewN (Below.refl _ _) _⟩
theorem showDate_eq (a b c e : List UInt8) : (⟨a.toArray⟩ : ByteArray) ++ ⟨b.toArray⟩ ++ ⟨#[45]⟩ ++ ⟨c.toArray⟩ ++ ⟨#[45]⟩ ++ ⟨e.toArray⟩ = ⟨(a ++ b ++ [45] ++ c ++ [45] ++ e).toArray⟩ := by
  apply ByteArray.ext; simp
/-- The text of a date. -/
def dtx (y m d : Int) : List UInt8 := d2 (y / 100).toNat ++ d2 y.toNat ++ [45] ++ d2 m.toNat ++ [45] ++ d2 d.toNat
set_option maxHeartbeats 1000000 in
theorem showDate_any (y m d : Int) (w : World) (y0 : 0 ≤ y) (y1 : y ≤ 9999) (m0 : 0 ≤ m) (m1 : m ≤ 99) (d0 : 0 ≤ d) (d1 : d ≤ 99) :
    Calls Tryd.prog 39 #[.agg #[.int .i64 y, .int .i64 m, .int .i64 d]] w fun e w' => e = .returned (.string ⟨(dtx y m d).toArray⟩) ∧ Below w.heap.size w w' := by
  have e1 : (d2 (y / 100).toNat).length = 2 := rfl
  have e2 : (d2 y.toNat).length = 2 := rfl
  have e3 : (d2 m.toNat).length = 2 := rfl
  have e4 : (d2 d.toNat).length = 2 := rfl
  go_enter Tryd.func39, Tryd.ntmps39
  go_wp2_with fail
  have D0 := Dat.new w y m d 23
  have B0 : Below w.heap.size w (w.alloc (.cells #[.int .i64 y, .int .i64 m, .int .i64 d] 23)) := (Below.refl _ _).alloc (Nat.le_refl _) _
  refine (refTwo_any _ _ (by omega) (by omega)).mono ?_
  rintro e w1 ⟨rfl, hb⟩
  have D1 := D0.on hb
  have B1 := B0.trans (hb.mono B0.size)
  clear hb D0 B0
  obtain ⟨D_0, D_1, D_2⟩ := id D1
  have D_l := D1.lt
  go_wp2_with fail
  clear D_0 D_1 D_2 D_l
  refine (refTwo_any _ _ (by omega) (by omega)).mono ?_
  rintro e w2 ⟨rfl, hb⟩
  have D2 := D1.on hb
  have B2 := B1.trans (hb.mono B1.size)
  clear hb D1 B1
  obtain ⟨D_0, D_1, D_2⟩ := id D2
  have D_l := D2.lt
  go_wp2_with fail
  clear D_0 D_1 D_2 D_l
  refine (refTwo_any _ _ (by omega) (by omega)).mono ?_
  rintro e w3 ⟨rfl, hb⟩
  have D3 := D2.on hb
  have B3 := B2.trans (hb.mono B2.size)
  clear hb D2 B2
  obtain ⟨D_0, D_1, D_2⟩ := id D3
  have D_l := D3.lt
  go_wp2_with fail
  clear D_0 D_1 D_2 D_l
  refine (refTwo_any _ _ (by omega) (by omega)).mono ?_
  rintro e w4 ⟨rfl, hb⟩
  have B4 := B3.trans (hb.mono B3.size)
  clear hb D3 B3
  go_wp2_with fail
  go_ret
  exact ⟨ret_ba (showDate_eq _ _ _ _), B4⟩
end Go.Proofs.YtdiijpjfkgnjkaaDoor
