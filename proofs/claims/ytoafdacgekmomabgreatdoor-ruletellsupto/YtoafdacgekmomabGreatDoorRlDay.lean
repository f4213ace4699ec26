/-
  What is proved here: what package rule's printUnless (a closure), printWeek and printDay answer (contracts over the translation); the words of weekdays are asked as a premise.
-/
import Derived.Test.YtoafdacgekmomabGreatDoorRlOwn
import Derived.Test.YtoafdacgekmomabGreatDoorQI
namespace Go.Proofs.YtoafdacgekmomabGreatDoor
open Go.RowKit Cal Txt

theorem cell_lt {w : World} {b o : Nat} {v : Value} (h : w.cell? ⟨b, o, none⟩ = some v) : b < w.heap.size := by
  rcases Nat.lt_or_ge b w.heap.size with g | g
  · exact g
  · simp [World.cell?, Array.getElem?_eq_none g] at h
theorem tb_app (a b : List UInt8) : tb (a ++ b) = tb a ++ tb b := (ba_app a b).symm
theorem tb_size (a : List UInt8) : (tb a).size = a.length := by simp [tb, ByteArray.size]
theorem ret_strNil2 {a b : ByteArray} (h : a = b) : Ending.returned (.tuple #[.string a, .nilIface]) = .returned (.tuple #[.string b, .nilIface]) := by rw [h]
/-- A number as text, or nothing where it is the usual one. -/
def unt (n usual : Int) : List UInt8 := if n = usual then [] else nt n
theorem unless_any (n usual : Int) (w : World) (hP : Pow w) (h0 : -9223372036854775808 ≤ n) (h1 : n ≤ 9223372036854775807) :
    Calls Tryz.prog 53 #[.int .i64 n, .int .i64 usual] w fun e w' => e = .returned (.string (tb (unt n usual))) ∧ Below w.heap.size w w' := by
  by_cases h : n = usual
  · have e1 : (n == usual) = true := by simp [h]
    have N1 : Hid (unt n usual = []) := Lib.hid (if_pos h)
    clear h
    go_enter Tryz.func53, Tryz.ntmps53
    go_wp2
    go_ret
    exact ⟨ret_ba (by rw [N1.out]; rfl), Below.refl _ _⟩
  · have e1 : (n == usual) = false := by simp [h]
    have N1 : Hid (unt n usual = nt n) := Lib.hid (if_neg h)
    clear h
    go_enter Tryz.func53, Tryz.ntmps53
    go_wp2_with fail
    refine (itoa_nt n _ hP h0 h1).mono ?_
    rintro e w1 ⟨rfl, hb⟩
    go_wp2
    go_ret
    exact ⟨ret_ba (by rw [N1.out]), hb⟩
/-- The words of weekdays lie as their text lays them. -/
def WdW (w : World) : Prop := ∀ k : Nat, k < 7 → w.cell? ⟨3, k, none⟩ = some (.string (tb (dn (k + 1))))
theorem WdW.below {w w' : World} (h : WdW w) (b : Below w.heap.size w w') : WdW w' := fun k hk => by
  have := h k hk
  have hb : 3 < w.heap.size := by
    rcases Nat.lt_or_ge 3 w.heap.size with g | g
    · exact g
    · simp [World.cell?, Array.getElem?_eq_none g] at this
  exact (b.cell (p := ⟨3, k, none⟩) hb).trans this
set_option maxRecDepth 100000 in
set_option maxHeartbeats 2000000 in
theorem printWeek_any (x : Int × Int) (w : World) (hP : Pow w) (hW : WdW w) (h1 : 1 ≤ x.2) (h7 : x.2 ≤ 7) (h0 : -5 ≤ x.1) (h5 : x.1 ≤ 5) :
    Calls Tryz.prog 57 #[.agg #[.int .i64 x.1, .int .i64 x.2]] w fun e w' => e = .returned (.string (tb (wt x))) ∧ Below w.heap.size w w' := by
  obtain ⟨n, k⟩ := x
  dsimp only at h1 h7 h0 h5 ⊢
  have B0 : Below w.heap.size w (w.alloc (.cells #[.int .i64 n, .int .i64 k] 41)) := (Below.refl _ _).alloc (Nat.le_refl _) _
  have T0 := Lib.hid (Two.new w n k 41)
  have HB := Lib.hid B0
  have HP := Lib.hid (hP.below B0)
  have cw : w.cell? ⟨3, k.toNat - 1, none⟩ = some (.string (tb (dn k))) := by
    have := hW (k.toNat - 1) (by omega)
    rwa [show ((k.toNat - 1 : Nat) : Int) + 1 = k by omega] at this
  have gl : 3 < w.heap.size := cell_lt cw
  clear hP hW
  have i1 : (0 : Int) ≤ k - 1 := by omega
  have i2 : k - 1 < 7 := by omega
  by_cases hn : n = 0
  · have N1 : Hid (wt (n, k) = dn k) := Lib.hid (by unfold wt; rw [if_pos hn]; rfl)
    subst hn
    clear B0 HP T0
    go_enter Tryz.func57, Tryz.ntmps57
    go_wp2
    go_ret
    exact ⟨ret_ba (by rw [N1.out]), HB.out⟩
  · have N1 : Hid (tb (wt (n, k)) = tb (nt n) ++ tb (dn k)) := Lib.hid (by unfold wt; rw [if_neg hn, tb_app])
    have e1 : (n == 0) = false := by simp [hn]
    have n1 : ¬ 9223372036854775807 < (tb (nt n)).size + (tb (dn k)).size := by
      have d2 : (dn k).length = 2 := dn_len h1 h7
      have d3 : (nt n).length ≤ 10 := nt_len n (by omega) (by omega)
      rw [tb_size, tb_size]; omega
    have ck := (B0.cell (p := ⟨3, k.toNat - 1, none⟩) gl).trans cw
    clear hn B0 cw gl
    go_enter Tryz.func57, Tryz.ntmps57
    go_wp2_with fail
    obtain ⟨t0, t1⟩ := T0.out
    clear T0
    generalize w.alloc (.cells #[.int .i64 n, .int .i64 k] 41) = W at HB HP ck t0 t1 ⊢
    have r0 := cell_regrown t0
    have r1 := cell_regrown t1
    have r2 := cell_regrown ck
    have i4 : IntKind.i64.wrap (k - 1) = k - 1 := by rw [IntKind.wrap_i64]; omega
    refine wp_region_quiet_below (by kernel_rfl) (by kernel_rfl) ?_
    repeat (quiet_step ((go_at_call 54; exact Calls.regrown_of (itoa_nt _ _ (HP.out.below (below_regrown W _ _)) (by omega) (by omega)))))
    refine wpQuiet_nil ?_
    intro _ hw'
    obtain ⟨⟨dq, osq⟩, hw''⟩ := hw'
    subst hw''
    have hB2 := HB.out.trans ((below_regrown W dq osq).mono HB.out.size)
    generalize Sort.grow (redrawn W dq) osq = W3 at hB2 ⊢
    clear r0 r1 r2 t0 t1 ck HP HB
    go_wp2
    go_ret
    exact ⟨ret_ba N1.out.symm, hB2⟩
/-- A day's time, one minute behind its beginning. -/
theorem txt_day (n : Int) : txt ((n - 1) * 1440 + 1) = dt n ++ [32, 48, 48, 58, 48, 49] := by
  unfold txt
  rw [show ((n - 1) * 1440 + 1) / 1440 + 1 = n by omega, show ((n - 1) * 1440 + 1) % 1440 / 60 = 0 by omega, show ((n - 1) * 1440 + 1) % 60 = 1 by omega]
  unfold dt dt3 tmt
  simp [d2]
/-- A day as text, or nothing where there is none. -/
def dayt (n : Int) : List UInt8 := if n = 0 then [] else dt n
set_option maxRecDepth 100000 in
set_option maxHeartbeats 2000000 in
theorem printDay_any (n : Int) (w : World) (hT : Tab w) (hP : Pow w) (h0 : 0 ≤ n) (h2 : n ≤ 109573) :
    Calls Tryz.prog 25 #[.int .i64 n] w fun e w' => e = .returned (.tuple #[.string (tb (dayt n)), .nilIface]) ∧ Below w.heap.size w w' := by
  by_cases h : n = 0
  · subst h
    go_enter Tryz.func25, Tryz.ntmps25
    go_wp2
    go_ret2
    exact ⟨rfl, Below.refl _ _⟩
  · have N1 : Hid (dayt n = dt n) := Lib.hid (if_neg h)
    have b0 : (n == 0) = false := by simp [h]
    have TX := Lib.hid (txt_day n)
    have TS : Hid (Lib.trimSuffix (txt ((n - 1) * 1440 + 1)) [32, 48, 48, 58, 48, 49] = dt n) := Lib.hid (by
      rw [TX.out]
      unfold Lib.trimSuffix
      have e1 : Lib.hasSuffix (dt n ++ [32, 48, 48, 58, 48, 49]) [32, 48, 48, 58, 48, 49] = true := by simp [Lib.hasSuffix]
      rw [if_pos e1]
      simp)
    have LS : Hid ((txt ((n - 1) * 1440 + 1)).length ≤ 100) := Lib.hid (by rw [TX.out]; simp [dt, dt3_len])
    have hn1 : 1 ≤ n := by omega
    clear h
    go_enter Tryz.func25, Tryz.ntmps25
    go_wp2_with fail
    refine (print_yes ((n - 1) * 1440 + 1) _ hT hP (by omega) (by omega)).mono ?_
    rintro e w1 ⟨rfl, hb⟩
    go_wp2_with fail
    refine (Tryz.strings_TrimSuffix _ ⟨#[32, 48, 48, 58, 48, 49]⟩ _ (by show (List.toArray _).size ≤ _; have := LS.out; simp; omega)).mono ?_
    rintro e w2 ⟨rfl, hw⟩
    subst hw
    go_wp2
    go_ret2
    exact ⟨ret_strNil2 (by show (⟨(Lib.trimSuffix (txt ((n - 1) * 1440 + 1)) [32, 48, 48, 58, 48, 49]).toArray⟩ : ByteArray) = _; rw [TS.out, N1.out]; rfl), hb⟩
end Go.Proofs.YtoafdacgekmomabGreatDoor
