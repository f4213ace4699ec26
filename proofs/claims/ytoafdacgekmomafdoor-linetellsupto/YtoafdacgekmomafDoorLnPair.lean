/-
  What is proved here: what strings.Cut (at one byte) and package line's isKey and Pair answer, for every text (contracts over the translation).
-/
import Derived.Test.YtoafdacgekmomafDoorLnUnf
import Derived.Lib.Bytealg
namespace Go.Proofs.YtoafdacgekmomafDoor
open Go.RowKit Cal Ln

/-- Where a byte first stands in a text; its length: nowhere. -/
def at1 (c : UInt8) : List UInt8 → Nat
  | [] => 0
  | b :: r => if b = c then 0 else at1 c r + 1
theorem at1_le (c : UInt8) : ∀ l, at1 c l ≤ l.length
  | [] => Nat.le_refl _
  | b :: r => by
    unfold at1
    split
    · simp
    · have := at1_le c r; simp; omega
theorem at1_lib (c : UInt8) : ∀ l, Lib.indexByte l c = if at1 c l < l.length then (at1 c l : Int) else -1
  | [] => rfl
  | b :: r => by
    unfold Lib.indexByte at1
    by_cases h : b = c
    · rw [if_pos h, if_pos (by simpa using h)]; simp
    · rw [if_neg h, if_neg (by simpa using h), at1_lib c r]
      by_cases k : at1 c r < r.length
      · have : ((if at1 c r < r.length then (at1 c r : Int) else -1) == -1) = false := by rw [if_pos k]; simp
        rw [this, if_pos k]
        simp [k]
      · have : ((if at1 c r < r.length then (at1 c r : Int) else -1) == -1) = true := by rw [if_neg k]; rfl
        rw [this]
        simp [k]
theorem at1_hit (c : UInt8) : ∀ {l}, at1 c l < l.length → l = l.take (at1 c l) ++ c :: l.drop (at1 c l + 1)
  | [], h => by simp [at1] at h
  | b :: r, h => by
    by_cases k : b = c
    · have e : at1 c (b :: r) = 0 := by unfold at1; rw [if_pos k]
      rw [e]; simp [k]
    · have e : at1 c (b :: r) = at1 c r + 1 := if_neg k
      rw [e] at h ⊢
      have ih := at1_hit c (l := r) (by simpa using h)
      rw [List.take_succ_cons, List.drop_succ_cons]
      show b :: r = b :: (r.take (at1 c r) ++ c :: r.drop (at1 c r + 1))
      rw [← ih]
/-- The two parts of a text around its first such byte. -/
def ctA (c : UInt8) (s : ByteArray) : ByteArray := if at1 c s.data.toList < s.size then s.extract 0 (at1 c s.data.toList) else s
def ctB (c : UInt8) (s : ByteArray) : ByteArray := if at1 c s.data.toList < s.size then s.extract (at1 c s.data.toList + 1) s.size else ⟨#[]⟩
def ctF (c : UInt8) (s : ByteArray) : Bool := decide (at1 c s.data.toList < s.size)
set_option maxRecDepth 100000 in
set_option maxHeartbeats 2000000 in
theorem litecut_any (s : ByteArray) (c : UInt8) (w : World) (hs : s.size ≤ 140737488355328) :
    Calls Tryd.prog 29 #[.string s, .string ⟨#[c]⟩] w fun e w' => e = .returned (.tuple #[.string (ctA c s), .string (ctB c s), .bool (ctF c s)]) ∧ Below w.heap.size w w' := by
  have IL := at1_lib c s.data.toList
  by_cases h : at1 c s.data.toList < s.size
  · have e1 := Lib.hid (show ctA c s = s.extract 0 (at1 c s.data.toList) from if_pos h)
    have e2 := Lib.hid (show ctB c s = s.extract (at1 c s.data.toList + 1) s.size from if_pos h)
    have e3 := Lib.hid (show ctF c s = true from decide_eq_true h)
    rw [if_pos (show at1 c s.data.toList < s.data.toList.length from h)] at IL
    have HI := Lib.hid IL
    clear IL
    obtain ⟨k, hk⟩ : ∃ k, k = at1 c s.data.toList := ⟨_, rfl⟩
    rw [← hk] at e1 e2 h HI
    clear hk
    go_enter Tryd.func29, Tryd.ntmps29
    go_wp2_with fail
    refine (Tryd.stringslite_Index_one s c _).mono ?_
    rintro e w1 ⟨rfl, hw⟩
    subst hw
    rw [HI.out]
    go_wp2
    go_quiet (fail)
    go_wp2
    go_ret3
    exact ⟨by rw [e1.out, e2.out, e3.out]; rfl, ln_drewN (Below.refl _ _) _⟩
  · have e1 := Lib.hid (show ctA c s = s from if_neg h)
    have e2 := Lib.hid (show ctB c s = ⟨#[]⟩ from if_neg h)
    have e3 := Lib.hid (show ctF c s = false from decide_eq_false h)
    rw [if_neg (show ¬ at1 c s.data.toList < s.data.toList.length from h)] at IL
    have HI := Lib.hid IL
    clear IL h
    go_enter Tryd.func29, Tryd.ntmps29
    go_wp2_with fail
    refine (Tryd.stringslite_Index_one s c _).mono ?_
    rintro e w1 ⟨rfl, hw⟩
    subst hw
    rw [HI.out]
    go_wp2
    go_ret3
    exact ⟨by rw [e1.out, e2.out, e3.out]; rfl, Below.refl _ _⟩
set_option maxRecDepth 100000 in
set_option maxHeartbeats 2000000 in
theorem strcut_any (s : ByteArray) (c : UInt8) (w : World) (hs : s.size ≤ 140737488355328) :
    Calls Tryd.prog 23 #[.string s, .string ⟨#[c]⟩] w fun e w' => e = .returned (.tuple #[.string (ctA c s), .string (ctB c s), .bool (ctF c s)]) ∧ Below w.heap.size w w' := by
  go_enter Tryd.func23, Tryd.ntmps23
  go_wp2_with fail
  refine (litecut_any s c _ hs).mono ?_
  rintro e w1 ⟨rfl, hb⟩
  go_wp2
  go_ret3
  exact ⟨rfl, hb⟩
/-- Is a text a key: 1 to 12 letters? -/
def keB (l : List UInt8) : Bool := decide (1 ≤ l.length) && decide (l.length ≤ 12) && l.all fun b => decide (65 ≤ b.toNat ∧ b.toNat ≤ 90)
theorem ke_long {l : List UInt8} (h : ¬ (1 ≤ l.length ∧ l.length ≤ 12)) : keB l = false := by
  unfold keB
  rcases Nat.lt_or_ge l.length 1 with k | k
  · rw [decide_eq_false (by omega)]; rfl
  · rw [decide_eq_false (show ¬ l.length ≤ 12 by omega)]; simp
theorem ke_all {l : List UInt8} (h1 : 1 ≤ l.length) (h2 : l.length ≤ 12) (h : ∀ j (hj : j < l.length), 65 ≤ l[j].toNat ∧ l[j].toNat ≤ 90) : keB l = true := by
  unfold keB
  rw [decide_eq_true h1, decide_eq_true h2]
  simp only [Bool.and_self, Bool.true_and, List.all_eq_true]
  intro x hx
  obtain ⟨j, hj, rfl⟩ := List.getElem_of_mem hx
  exact decide_eq_true (h j hj)
theorem ke_bad {l : List UInt8} (j : Nat) (hj : j < l.length) (h : ¬ (65 ≤ l[j].toNat ∧ l[j].toNat ≤ 90)) : keB l = false := by
  unfold keB
  have : (l.all fun b => decide (65 ≤ b.toNat ∧ b.toNat ≤ 90)) = false := by
    rw [List.all_eq_false]
    exact ⟨l[j], List.getElem_mem hj, by simpa using h⟩
  rw [this, Bool.and_false]
set_option maxRecDepth 100000 in
set_option maxHeartbeats 2000000 in
theorem isKey_any (s : ByteArray) (w : World) (hs : s.size ≤ 140737488355328) :
    Calls Tryd.prog 24 #[.string s] w fun e w' => e = .returned (.bool (keB s.data.toList)) ∧ w' = w := by
  by_cases h1 : s.size < 1
  · have E := Lib.hid (ke_long (l := s.data.toList) (by show ¬ (1 ≤ s.size ∧ s.size ≤ 12); omega))
    go_enter Tryd.func24, Tryd.ntmps24
    go_wp2
    go_ret
    exact ⟨ret_bool E.out.symm, rfl⟩
  by_cases h2 : 12 < s.size
  · have E := Lib.hid (ke_long (l := s.data.toList) (by show ¬ (1 ≤ s.size ∧ s.size ≤ 12); omega))
    go_enter Tryd.func24, Tryd.ntmps24
    go_wp2
    go_ret
    exact ⟨ret_bool E.out.symm, rfl⟩
  go_enter Tryd.func24, Tryd.ntmps24
  go_wp2
  go_loop [14] (fun i => ∃ k : Nat, k ≤ s.size ∧ i = .int .i64 k ∧ ∀ j (hj : j < s.data.toList.length), j < k → 65 ≤ s.data.toList[j].toNat ∧ s.data.toList[j].toNat ≤ 90) (fun i => s.size - (intOf i).toNat)
  case atStart => exact ⟨0, Nat.zero_le _, rfl, fun j _ h => absurd h (Nat.not_lt_zero _)⟩
  case round =>
    obtain ⟨k, hk, rfl, hA⟩ := hrel
    have HA := Lib.hid hA
    clear hA
    by_cases hlt : k < s.size
    · by_cases ha : 65 ≤ s[k].toNat
      · by_cases hz : s[k].toNat ≤ 90
        · have NX := Lib.hid (show ∀ j (hj : j < s.data.toList.length), j < k + 1 → 65 ≤ s.data.toList[j].toNat ∧ s.data.toList[j].toNat ≤ 90 from fun j hj h => by
            rcases Nat.lt_or_ge j k with q | q
            · exact HA.out j hj q
            · obtain rfl : j = k := by omega
              exact ⟨ha, hz⟩)
          have p1 : ¬ (s[k].toNat : Int) < 65 := by omega
          have p2 : ¬ (90 : Int) < (s[k].toNat : Int) := by omega
          clear ha hz
          go_wp2
          go_round
          case rel => exact ⟨k + 1, by omega, by go_num, NX.out⟩
          case measure => simp [intOf]; omega
        · have E := Lib.hid (ke_bad (l := s.data.toList) k hlt (fun q => hz q.2))
          have p1 : ¬ (s[k].toNat : Int) < 65 := by omega
          have p2 : (90 : Int) < (s[k].toNat : Int) := by omega
          clear ha hz
          go_wp2
          go_ret
          exact ⟨ret_bool E.out.symm, rfl⟩
      · have E := Lib.hid (ke_bad (l := s.data.toList) k hlt (fun q => ha q.1))
        have p1 : (s[k].toNat : Int) < 65 := by omega
        clear ha
        go_wp2
        go_ret
        exact ⟨ret_bool E.out.symm, rfl⟩
    · have E := Lib.hid (ke_all (l := s.data.toList) (by show 1 ≤ s.size; omega) (by show s.size ≤ 12; omega) (fun j hj => HA.out j hj (by have : s.data.toList.length = s.size := rfl; omega)))
      go_wp2
      go_ret
      exact ⟨ret_bool E.out.symm, rfl⟩
/-- What Pair answers. -/
def paB (s : ByteArray) : Bool := ctF 58 s && keB (ctA 58 s).data.toList
def paK (s : ByteArray) : ByteArray := if paB s then ctA 58 s else ⟨#[]⟩
def paV (s : ByteArray) : ByteArray := if paB s then ctB 58 s else ⟨#[]⟩
def paF (s : ByteArray) : Int := if paB s then 0 else 2
theorem ctA_le (c : UInt8) (s : ByteArray) : (ctA c s).size ≤ s.size := by
  unfold ctA
  split
  · simp; omega
  · exact Nat.le_refl _
set_option maxRecDepth 100000 in
set_option maxHeartbeats 2000000 in
theorem pair_any (s : ByteArray) (w : World) (hs : s.size ≤ 140737488355328) :
    Calls Tryd.prog 15 #[.string s] w fun e w' => e = .returned (.tuple #[.string (paK s), .string (paV s), fault (paF s)]) ∧ Below w.heap.size w w' := by
  have la := ctA_le 58 s
  rcases hf : ctF 58 s with _ | _
  · have hp : paB s = false := by unfold paB; rw [hf]; rfl
    have e1 := Lib.hid (show paK s = ⟨#[]⟩ by unfold paK; rw [hp]; rfl)
    have e2 := Lib.hid (show paV s = ⟨#[]⟩ by unfold paV; rw [hp]; rfl)
    have e3 := Lib.hid (show paF s = 2 by unfold paF; rw [hp]; rfl)
    clear hp
    go_enter Tryd.func15, Tryd.ntmps15
    go_wp2_with fail
    refine (strcut_any s 58 _ hs).mono ?_
    rintro e w1 ⟨rfl, hb⟩
    go_wp2
    go_ret3
    exact ⟨by rw [e1.out, e2.out, e3.out]; rfl, hb⟩
  · rcases hk : keB (ctA 58 s).data.toList with _ | _
    · have hp : paB s = false := by unfold paB; rw [hf, hk]; rfl
      have e1 := Lib.hid (show paK s = ⟨#[]⟩ by unfold paK; rw [hp]; rfl)
      have e2 := Lib.hid (show paV s = ⟨#[]⟩ by unfold paV; rw [hp]; rfl)
      have e3 := Lib.hid (show paF s = 2 by unfold paF; rw [hp]; rfl)
      clear hp
      go_enter Tryd.func15, Tryd.ntmps15
      go_wp2_with fail
      refine (strcut_any s 58 _ hs).mono ?_
      rintro e w1 ⟨rfl, hb⟩
      go_wp2_with fail
      refine (isKey_any (ctA 58 s) _ (Nat.le_trans la hs)).mono ?_
      rintro e w2 ⟨rfl, hw⟩
      subst hw
      go_wp2
      go_ret3
      exact ⟨by rw [e1.out, e2.out, e3.out]; rfl, hb⟩
    · have hp : paB s = true := by unfold paB; rw [hf, hk]; rfl
      have e1 := Lib.hid (show paK s = ctA 58 s by unfold paK; rw [hp]; rfl)
      have e2 := Lib.hid (show paV s = ctB 58 s by unfold paV; rw [hp]; rfl)
      have e3 := Lib.hid (show paF s = 0 by unfold paF; rw [hp]; rfl)
      clear hp
      go_enter Tryd.func15, Tryd.ntmps15
      go_wp2_with fail
      refine (strcut_any s 58 _ hs).mono ?_
      rintro e w1 ⟨rfl, hb⟩
      go_wp2_with fail
      refine (isKey_any (ctA 58 s) _ (Nat.le_trans la hs)).mono ?_
      rintro e w2 ⟨rfl, hw⟩
      subst hw
      go_wp2
      go_ret3
      exact ⟨by rw [e1.out, e2.out, e3.out]; rfl, hb⟩
end Go.Proofs.YtoafdacgekmomafDoor
