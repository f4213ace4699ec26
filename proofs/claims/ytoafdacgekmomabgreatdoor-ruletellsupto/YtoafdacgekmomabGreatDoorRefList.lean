/-
  What is proved here: what the document's within, Rises and list answer (contracts over the translation).
-/
import Derived.Test.YtoafdacgekmomabGreatDoorInts
import Derived.Test.YtoafdacgekmomabGreatDoorQK
import Derived.Test.YtoafdacgekmomabGreatDoorQB
namespace Go.Proofs.YtoafdacgekmomabGreatDoor
open Go.RowKit Cal Txt

set_option maxHeartbeats 1000000 in
theorem within_any (v : Value) (l : List Int) (lo hi : Int) (w : World) (hv : Ints w v l) (hl : l.length ≤ 1000) :
    Calls Tryz.prog 13 #[v, .int .i64 lo, .int .i64 hi] w fun e w' => e = .returned (.bool (inB lo hi l)) ∧ w' = w := by
  obtain ⟨a, cap, rfl, hc⟩ := hv
  rcases hc with rfl | ⟨b, off, rfl, hc⟩
  · go_enter Tryz.func13, Tryz.ntmps13
    go_wp2
    go_loop [7] (fun i => i = .int .i64 0) (fun _ => 0)
    case atStart => rfl
    case round =>
      subst hrel
      go_wp2
      go_ret
      exact ⟨rfl, rfl⟩
  · have HC := Lib.hid hc
    clear hc
    go_enter Tryz.func13, Tryz.ntmps13
    go_wp2
    go_loop [7] (fun i => ∃ k : Nat, k ≤ l.length ∧ i = .int .i64 k ∧ ∀ j, j < k → ¬ l.getD j 0 = 0 ∧ lo ≤ l.getD j 0 ∧ l.getD j 0 ≤ hi) (fun i => l.length - (intOf i).toNat)
    case atStart => exact ⟨0, Nat.zero_le _, rfl, fun j hj => by omega⟩
    case round =>
      obtain ⟨k, hk, rfl, hF⟩ := hrel
      have HF := Lib.hid hF
      clear hF
      by_cases hlt : k < l.length
      · have ck := HC.out k hlt
        obtain ⟨x, hx⟩ : ∃ x, x = l.getD k 0 := ⟨_, rfl⟩
        rw [← hx] at ck
        have HX := Lib.hid hx
        clear hx
        have hcs : (x == 0) = true ∨ ((x == 0) = false ∧ x < lo) ∨ ((x == 0) = false ∧ lo ≤ x ∧ hi < x) ∨ ((x == 0) = false ∧ lo ≤ x ∧ x ≤ hi) := by
          have e : (x == 0) = false ↔ ¬ x = 0 := by simp
          have e' : (x == 0) = true ↔ x = 0 := by simp
          rw [e, e']; omega
        rcases hcs with c | ⟨c, d⟩ | ⟨c, d, f⟩ | ⟨c, d, f⟩
        case inr.inr.inr =>
          have c' : ¬ x = 0 := by simpa using c
          have N1 : Hid (¬ l.getD k 0 = 0 ∧ lo ≤ l.getD k 0 ∧ l.getD k 0 ≤ hi) := Lib.hid (by rw [← HX.out]; exact ⟨c', d, f⟩)
          clear c'
          go_wp2
          go_round
          case rel => exact ⟨k + 1, by omega, by go_num, fun j hj => by
            rcases Nat.lt_or_ge j k with g | g
            · exact HF.out j g
            · obtain rfl : j = k := by omega
              exact N1.out⟩
          case measure => simp [intOf]; omega
        all_goals
          have N0 : Hid (inB lo hi l = false) := Lib.hid (inB_not k hlt (by rw [← HX.out]; have e : (x == 0) = true → x = 0 := by simp
                                                                            first | omega | (have := e c; omega)))
          go_wp2
          go_ret
          exact ⟨ret_bool N0.out.symm, rfl⟩
      · have N1 : Hid (inB lo hi l = true) := Lib.hid (inB_iff.2 (fun j hj => HF.out j (by omega)))
        go_wp2
        go_ret
        exact ⟨ret_bool N1.out.symm, rfl⟩
set_option maxHeartbeats 1000000 in
theorem rises_any (v : Value) (l : List Int) (w : World) (hv : Ints w v l) (hl : l.length ≤ 1000) :
    Calls Tryz.prog 14 #[v] w fun e w' => e = .returned (.bool (risB l)) ∧ Below w.heap.size w w' := by
  obtain ⟨a, cap, rfl, hc⟩ := hv
  rcases hc with rfl | ⟨b, off, rfl, hc⟩
  · go_enter Tryz.func14, Tryz.ntmps14
    go_wp2
    go_loop [3] (fun i => i = .int .i64 1) (fun _ => 0)
    case atStart => rfl
    case round =>
      subst hrel
      go_wp2
      go_ret
      exact ⟨rfl, Below.refl _ _⟩
  · have HC := Lib.hid hc
    clear hc
    have R1 : Hid (l.length ≤ 1 → risB l = true) := Lib.hid (fun h => risB_iff.2 (fun j hj => by omega))
    go_enter Tryz.func14, Tryz.ntmps14
    go_wp2
    go_loopw [3] (fun i wr => ∃ k : Nat, 1 ≤ k ∧ (k ≤ l.length ∨ k = 1) ∧ i = .int .i64 k ∧ Below w.heap.size w wr ∧ (∀ i, i < l.length → wr.cell? ⟨b, off + i, none⟩ = some (.int .i64 (l.getD i 0))) ∧ ∀ j, j + 1 < k → l.getD j 0 < l.getD (j + 1) 0) (fun i _ => l.length - (intOf i).toNat)
    case atStart => exact ⟨1, by omega, Or.inr rfl, rfl, Below.refl _ _, HC.out, fun j hj => by omega⟩
    case round =>
      obtain ⟨k, k1, hk, rfl, hB, hc, hF⟩ := hrel
      have HF := Lib.hid hF
      have HK := Lib.hid hc
      clear hF hc
      by_cases hlt : k < l.length
      · have ck := HK.out k hlt
        have cj := HK.out (k - 1) (by omega)
        obtain ⟨x, hx⟩ : ∃ x, x = l.getD k 0 := ⟨_, rfl⟩
        obtain ⟨y, hy⟩ : ∃ y, y = l.getD (k - 1) 0 := ⟨_, rfl⟩
        rw [← hx] at ck
        rw [← hy] at cj
        have HX := Lib.hid hx
        have HY := Lib.hid hy
        clear hx hy hk
        have i1 : (0 : Int) ≤ (k : Int) - 1 := by omega
        have i2 : (k : Int) - 1 < (l.length : Int) := by omega
        have i3 : ((k : Int) - 1).toNat = k - 1 := by omega
        by_cases c : y < x
        · have N1 : Hid (∀ j, j + 1 < k + 1 → l.getD j 0 < l.getD (j + 1) 0) := Lib.hid (fun j hj => by
            rcases Nat.lt_or_ge (j + 1) k with g | g
            · exact HF.out j g
            · obtain rfl : j = k - 1 := by omega
              rw [show k - 1 + 1 = k by omega, ← HX.out, ← HY.out]; exact c)
          go_wp2
          go_quiet (fail)
          go_wp2
          go_roundw
          case rel => exact ⟨k + 1, by omega, Or.inl (by omega), by go_num, below_drewN hB _, HK.out, N1.out⟩
          case measure => simp [intOf]; omega
        · have N0 : Hid (risB l = false) := Lib.hid (risB_not (k - 1) (by omega) (by rw [show k - 1 + 1 = k by omega, ← HX.out, ← HY.out]; exact c))
          go_wp2
          go_quiet (fail)
          go_wp2
          go_ret
          exact ⟨ret_bool N0.out.symm, below_drewN hB _⟩
      · have N1 : Hid (risB l = true) := Lib.hid (risB_iff.2 (fun j hj => HF.out j (by omega)))
        clear hk
        go_wp2
        go_ret
        exact ⟨ret_bool N1.out.symm, hB⟩
theorem take_at (l : List Int) (k : Nat) (h : k < l.length) : l.take (k + 1) = l.take k ++ [l.getD k 0] := by
  rw [List.take_succ_eq_append_getElem h, List.getD_eq_getElem?_getD, List.getElem?_eq_getElem h]; rfl
theorem take_ne {l : List Int} {k : Nat} (h : 0 < k) (hk : k ≤ l.length) : l.take k ≠ [] := by
  intro e
  have := congrArg List.length e
  rw [List.length_take, List.length_nil] at this
  omega
theorem lt_first (l : List Int) (h : 0 < l.length) : lt nt (l.take (0 + 1)) = nt (l.getD 0 0) := by
  rw [take_at l 0 h]; rfl
theorem lt_next (l : List Int) (k : Nat) (h0 : 0 < k) (h : k < l.length) : lt nt (l.take (k + 1)) = lt nt (l.take k) ++ 44 :: nt (l.getD k 0) := by
  rw [take_at l k h, lt_snoc nt _ _ (take_ne h0 (by omega))]
set_option maxHeartbeats 1000000 in
theorem list_any (v : Value) (l : List Int) (w : World) (hv : Ints w v l) (hl : l.length ≤ 1000) (hb : ∀ n ∈ l, -999999999 ≤ n ∧ n ≤ 999999999) :
    Calls Tryz.prog 24 #[v] w fun e w' => e = .returned (.string ⟨(lt nt l).toArray⟩) ∧ w' = w := by
  obtain ⟨a, cap, rfl, hc⟩ := hv
  rcases hc with rfl | ⟨b, off, rfl, hc⟩
  · go_enter Tryz.func24, Tryz.ntmps24
    go_wp2
    go_loop [3, 4] (fun t i => t = .string ⟨#[]⟩ ∧ i = .int .i64 0) (fun _ _ => 0)
    case atStart => exact ⟨rfl, rfl⟩
    case round =>
      obtain ⟨rfl, rfl⟩ := hrel
      go_wp2
      go_ret
      exact ⟨rfl, rfl⟩
  · have HC := Lib.hid hc
    have HB := Lib.hid hb
    clear hc hb
    go_enter Tryz.func24, Tryz.ntmps24
    go_wp2
    go_loop [3, 4] (fun t i => ∃ (s : ByteArray) (k : Nat), k ≤ l.length ∧ i = .int .i64 k ∧ t = .string s ∧ s.size ≤ 11 * k ∧ s.data.toList = lt nt (l.take k)) (fun _ i => l.length - (intOf i).toNat)
    case atStart => exact ⟨⟨#[]⟩, 0, Nat.zero_le _, rfl, rfl, Nat.zero_le _, rfl⟩
    case round =>
      obtain ⟨s, k, hk, rfl, rfl, hz, hs⟩ := hrel
      have HS := Lib.hid hs
      clear hs
      by_cases hlt : k < l.length
      · have ck := HC.out k hlt
        obtain ⟨x, hx⟩ : ∃ x, x = l.getD k 0 := ⟨_, rfl⟩
        rw [← hx] at ck
        have bx : -999999999 ≤ x ∧ x ≤ 999999999 := by
          rw [hx, List.getD_eq_getElem?_getD, List.getElem?_eq_getElem hlt]; exact HB.out _ (List.getElem_mem hlt)
        have lx := nt_len x bx.1 bx.2
        have HX := Lib.hid hx
        clear hx
        by_cases h0 : 0 < k
        · go_wp2_with fail
          refine (refDigits_nt x _ bx.1 bx.2).mono ?_
          rintro e w' ⟨rfl, hw⟩
          subst hw
          go_wp2_with fail
          go_round
          case rel => exact ⟨_, k + 1, by omega, by go_num, rfl, by rw [ByteArray.size_append, ByteArray.size_append]; show s.size + 1 + (nt x).length ≤ _; omega, by rw [lt_next l k h0 hlt, ← HX.out, ← HS.out]; simp⟩
          case measure => simp [intOf]; omega
        · obtain rfl : k = 0 := by omega
          rw [Nat.add_zero] at ck
          go_wp2_with fail
          refine (refDigits_nt x _ bx.1 bx.2).mono ?_
          rintro e w' ⟨rfl, hw⟩
          subst hw
          go_wp2_with fail
          go_round
          case rel => exact ⟨_, 0 + 1, by omega, rfl, rfl, by rw [ByteArray.size_append]; show s.size + (nt x).length ≤ _; omega, by rw [lt_first l hlt, ← HX.out]; simp [HS.out]; rfl⟩
          case measure => simp [intOf]; omega
      · obtain rfl : k = l.length := by omega
        have E : Hid (s = ⟨(lt nt l).toArray⟩) := Lib.hid (by
          apply ByteArray.ext; apply Array.ext'; rw [HS.out, List.take_length])
        go_wp2
        go_ret
        exact ⟨ret_ba E.out, rfl⟩
end Go.Proofs.YtoafdacgekmomabGreatDoor
