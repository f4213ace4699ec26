/-
  What is proved here: what the document's digits, ReadDate and Read answer, for every text (contracts over the translation).
-/
import Derived.Test.YtikpfeaidgeebaaDoorRefTwo
namespace Go.Proofs.YtikpfeaidgeebaaDoor
open Go.RowKit Cal Txt

/-- Are the bytes between two places digits? -/
def dgs (l : List UInt8) (a b : Nat) : Bool := ((l.drop a).take (b - a)).all isDg
theorem dgs_iff {l : List UInt8} {a b : Nat} : dgs l a b = true ↔ ∀ c ∈ (l.drop a).take (b - a), isDg c = true := by
  unfold dgs; rw [List.all_eq_true]
theorem part_snoc (l : List UInt8) (a k : Nat) (ha : a ≤ k) (hk : k < l.length) : (l.drop a).take (k + 1 - a) = (l.drop a).take (k - a) ++ [l[k]] := by
  have h : k - a < (l.drop a).length := by rw [List.length_drop]; omega
  rw [show k + 1 - a = (k - a) + 1 by omega, List.take_succ_eq_append_getElem h, List.getElem_drop]
  congr 3; omega
set_option maxHeartbeats 1000000 in
theorem digits_yes (s : ByteArray) (a b : Nat) (w : World) (hab : a ≤ b) (hb : b ≤ s.size) (h9 : b - a ≤ 9) (hz : s.size ≤ 16) (hd : dgs s.data.toList a b = true) :
    Calls Tryd.prog 34 #[.string s, .int .i64 a, .int .i64 b] w fun e w' => e = .returned (.tuple #[.int .i64 (nm s.data.toList a b), .bool true]) ∧ w' = w := by
  have DG := Lib.hid (dgs_iff.1 hd)
  clear hd
  go_enter Tryd.func34, Tryd.ntmps34
  go_wp2
  go_loop [8, 9] (fun n i => ∃ k : Nat, a ≤ k ∧ k ≤ b ∧ i = .int .i64 k ∧ n = .int .i64 (nm s.data.toList a k)) (fun _ i => b - (intOf i).toNat)
  case atStart => exact ⟨a, Nat.le_refl _, hab, rfl, by simp [nm, val]⟩
  case round =>
    obtain ⟨k, k1, k2, rfl, rfl⟩ := hrel
    by_cases hlt : k < b
    · have hk : k < s.size := by omega
      have sn := part_snoc s.data.toList a k k1 (by rw [size_len]; exact hk)
      have sub : ∀ c ∈ (s.data.toList.drop a).take (k + 1 - a), isDg c = true := fun c hc => DG.out c (List.take_subset_take_left _ (by omega) hc)
      have hc := isDg_iff.1 (sub s[k] (by rw [sn]; exact List.mem_append_right _ (List.mem_singleton.2 rfl)))
      have c1 : (48 : Int) ≤ s[k].toNat := by omega
      have c2 : (s[k].toNat : Int) ≤ 57 := by omega
      have vb : nm s.data.toList a k ≤ 999999999 := by
        unfold nm
        refine val_le9 _ (fun c hc => sub c (by rw [sn]; exact List.mem_append_left _ hc)) ?_
        rw [List.length_take]; omega
      have HS : Hid (nm s.data.toList a (k + 1) = nm s.data.toList a k * 10 + (s[k].toNat - 48)) := by
        unfold nm; rw [sn]; exact val_snoc _ _
      clear hc sub sn
      go_wp2
      go_round
      case rel => exact ⟨k + 1, by omega, by omega, by go_num, by rw [HS.out]; go_num⟩
      case measure => simp [intOf]; omega
    · have hk : k = b := by omega
      subst hk
      go_wp2
      go_ret2
      exact ⟨rfl, rfl⟩
set_option maxHeartbeats 1000000 in
theorem digits_no (s : ByteArray) (a b : Nat) (w : World) (hab : a ≤ b) (hb : b ≤ s.size) (h9 : b - a ≤ 9) (hz : s.size ≤ 16) (hd : dgs s.data.toList a b = false) :
    Calls Tryd.prog 34 #[.string s, .int .i64 a, .int .i64 b] w fun e w' => e = .returned (.tuple #[.int .i64 0, .bool false]) ∧ w' = w := by
  have HD := Lib.hid hd
  clear hd
  go_enter Tryd.func34, Tryd.ntmps34
  go_wp2
  go_loop [8, 9] (fun n i => ∃ k : Nat, a ≤ k ∧ k ≤ b ∧ i = .int .i64 k ∧ n = .int .i64 (nm s.data.toList a k) ∧ dgs s.data.toList a k = true) (fun _ i => b - (intOf i).toNat)
  case atStart => exact ⟨a, Nat.le_refl _, hab, rfl, by simp [nm, val], by simp [dgs]⟩
  case round =>
    obtain ⟨k, k1, k2, rfl, rfl, hk3⟩ := hrel
    have K3 := Lib.hid hk3
    clear hk3
    by_cases hlt : k < b
    · have hk : k < s.size := by omega
      have sn := part_snoc s.data.toList a k k1 (by rw [size_len]; exact hk)
      by_cases c1 : (48 : Int) ≤ s[k].toNat
      · by_cases c2 : (s[k].toNat : Int) ≤ 57
        · have vb : nm s.data.toList a k ≤ 999999999 := by
            unfold nm
            refine val_le9 _ (dgs_iff.1 K3.out) ?_
            rw [List.length_take]; omega
          have HS : Hid (nm s.data.toList a (k + 1) = nm s.data.toList a k * 10 + (s[k].toNat - 48)) := by
            unfold nm; rw [sn]; exact val_snoc _ _
          have K4 : Hid (dgs s.data.toList a (k + 1) = true) := by
            refine dgs_iff.2 fun c hc => ?_
            rw [sn] at hc
            rcases List.mem_append.1 hc with q | q
            · exact dgs_iff.1 K3.out c q
            · rw [List.mem_singleton.1 q]
              exact isDg_iff.2 (by show 48 ≤ (s[k]).toNat ∧ (s[k]).toNat ≤ 57; omega)
          clear sn
          go_wp2
          go_round
          case rel => exact ⟨k + 1, by omega, by omega, by go_num, by rw [HS.out]; go_num, K4.out⟩
          case measure => simp [intOf]; omega
        · have c2' : (57 : Int) < s[k].toNat := by omega
          clear sn
          go_wp2
          go_ret2
          exact ⟨rfl, rfl⟩
      · have c1' : (s[k].toNat : Int) < 48 := by omega
        clear sn
        go_wp2
        go_ret2
        exact ⟨rfl, rfl⟩
    · exfalso
      have hk : k = b := by omega
      subst hk
      have := K3.out
      rw [HD.out] at this
      cases this
end Go.Proofs.YtikpfeaidgeebaaDoor
