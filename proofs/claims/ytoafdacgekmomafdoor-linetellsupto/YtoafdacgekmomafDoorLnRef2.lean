/-
  What is proved here: what the document's Fold, Unfold and Pair answer, for every text and list of pieces that is not too long (contracts over the translation).
-/
import Derived.Test.YtoafdacgekmomafDoorLnRef
namespace Go.Proofs.YtoafdacgekmomafDoor
open Go.RowKit Cal Ln

theorem ext_drop (s : ByteArray) (a b : Nat) : (s.extract a b).data.toList = (s.data.toList.drop a).take (b - a) := by
  rw [ByteArray.data_extract, Array.toList_extract, List.extract_eq_take_drop]
theorem ext_most (s : ByteArray) (a b k : Nat) (h : b = min (a + k) s.size) : (s.extract a b).data.toList = (s.data.toList.drop a).take k := by
  rw [ext_drop s a b]
  rcases Nat.le_total (a + k) s.size with q | q
  · rw [show b - a = k by omega]
  · rw [List.take_of_length_le (l := s.data.toList.drop a) (i := k) (by rw [List.length_drop]; show s.size - a ≤ k; omega)]
    exact List.take_of_length_le (by rw [List.length_drop]; show s.size - a ≤ b - a; omega)
theorem drop_most (s : ByteArray) (a b k : Nat) (h : b = min (a + k) s.size) : s.data.toList.drop b = (s.data.toList.drop a).drop k := by
  rw [List.drop_drop]
  rcases Nat.le_total (a + k) s.size with q | q
  · rw [show b = a + k by omega]
  · rw [List.drop_of_length_le (by show s.size ≤ b; omega), List.drop_of_length_le (by show s.size ≤ a + k; omega)]
theorem ap_one (w : World) (x : Value) (t : TypeId) : ∀ (j : Nat) (u : Value), ([x] : List Value)[j]? = some u → (w.alloc (.cells #[x] t)).cell? ((⟨w.heap.size, 0, none⟩ : Addr).add j) = some u := by
  intro j u hj
  match j, hj with
  | 0, hj => simp at hj; subst hj; simp [Addr.add]
theorem ap_cell (x : ByteArray) : ∀ u ∈ [Value.string x], u.oneCell' = true := by intro u hu; simp at hu; subst hu; rfl
set_option maxRecDepth 100000 in
set_option maxHeartbeats 2000000 in
theorem refFold_any (s : ByteArray) (w : World) (hs : s.size ≤ 140737488351232) :
    Calls Tryd.prog 11 #[.string s] w (FoldA s w) := by
  obtain ⟨i0, hi, hz0, hz1, hz2⟩ := info_parts info_str
  by_cases h40 : s.size ≤ 40
  · have E := Lib.hid (show fold s.data.toList = [s.data.toList] by
      show s.data.toList.take 40 :: fr (s.data.toList.drop 40) = _
      rw [List.take_of_length_le h40, List.drop_of_length_le h40, fr_nil])
    go_enter Tryd.func11, Tryd.ntmps11
    go_wp2
    go_ret
    refine ⟨(Below.refl _ _).alloc (Nat.le_refl _) _, _, [s], rfl, ?_, by rw [E.out]; rfl⟩
    rw [E.out]
    exact World.ownsRow_lit w _ 1 (Nat.le_refl _) (by decide) rfl
  · have p0 : (40 : Int) < (s.size : Int) := by omega
    have p1 : (40 : Int) ≤ (s.size : Int) := by omega
    have HT := Lib.hid (show (s.extract 0 40).data.toList = s.data.toList.take 40 from ln_take s 40 40 (by omega))
    go_enter Tryd.func11, Tryd.ntmps11
    go_wp2
    go_loopw [3, 4, 5] (fun v f t wr => ∃ (a : Nat) (xs : List ByteArray), f = .int .i64 a ∧ a ≤ s.size ∧ FK s.data.toList (s.data.toList.drop a) (pcl xs) ∧ wr.ownsRow w.heap.size 9 1 v xs.length (strs xs) ∧ Below w.heap.size w wr) (fun _ f _ _ => s.size - (intOf f).toNat)
    case atStart => exact ⟨40, [s.extract 0 40], rfl, by omega, by show FK _ _ [(s.extract 0 40).data.toList]; rw [HT.out]; exact FK_start _, World.ownsRow_lit w _ 1 (Nat.le_refl _) (by decide) rfl, (Below.refl _ _).alloc (Nat.le_refl _) _⟩
    case round =>
      clear HT p0 p1
      obtain ⟨a, xs, rfl, ha, hK, hown, hB⟩ := hrel
      have HK := Lib.hid hK
      have HO := Lib.hid hown
      clear hK hown
      by_cases hlt : a < s.size
      · obtain ⟨b, hb⟩ : ∃ b, b = min (a + 39) s.size := ⟨_, rfl⟩
        have hx : s.data.toList.drop a ≠ [] := by
          intro k
          have := congrArg List.length k
          rw [List.length_drop, show s.data.toList.length = s.size from rfl] at this
          simp at this; omega
        have N1 := Lib.hid (FK_next HK.out hx)
        have X1 := Lib.hid (ext_most s a b 39 hb)
        have X2 := Lib.hid (drop_most s a b 39 hb)
        have L := FK_len HK.out
        rw [show (pcl xs).length = xs.length from List.length_map _, show s.data.toList.length = s.size from rfl] at L
        have L3 : (xs.length + 1) * 16 ≤ 140737488355328 := by omega
        have hbs : b ≤ s.size := by omega
        have hab : a ≤ b := by omega
        have hab2 : a < b := by omega
        have sz := hB.size
        clear L hx
        by_cases h39 : s.size < a + 39
        · obtain rfl : b = s.size := by omega
          have h39i : (s.size : Int) < (a : Int) + 39 := by omega
          clear hb h39
          go_wp2_with (at_builtin; refine wpList_append_own _ rfl _ _ 22 rfl w.heap.size 9 i0 (.string ByteArray.empty) 1 16 Tryd.underlying22 hi hz0 hz1 hz2 rfl (by decide) _ _ _ rfl (HO.out.alloc _) ⟨wr.heap.size, 0, none⟩ 1 1 [.string ((⟨#[32]⟩ : ByteArray) ++ s.extract a s.size)] rfl rfl (ap_one _ _ _) (ap_cell _) (by unfold maxLen; omega) L3 (by simp; omega) ?_)
          intro v' w2 hown' hgrow _
          have R := own_next hB.size hB (Below.refl _ wr) HO.out hown' hgrow
          have R1 := Lib.hid R.1
          have R2 := Lib.hid R.2
          clear R hown' hgrow HO
          go_wp2
          go_roundw
          case rel =>
            refine ⟨s.size, _, rfl, Nat.le_refl _, ?_, by rw [List.length_append]; exact R1.out, R2.out⟩
            rw [X2.out]
            show FK _ _ (List.map _ (xs ++ [_]))
            rw [List.map_append]
            show FK _ _ (_ ++ [((⟨#[32]⟩ : ByteArray) ++ s.extract a s.size).data.toList])
            rw [blank_app, X1.out]
            exact N1.out
          case measure => simp [intOf]; omega
        · obtain rfl : b = a + 39 := by omega
          have h39i : ¬ (s.size : Int) < (a : Int) + 39 := by omega
          clear hb h39
          go_wp2_with (at_builtin; refine wpList_append_own _ rfl _ _ 22 rfl w.heap.size 9 i0 (.string ByteArray.empty) 1 16 Tryd.underlying22 hi hz0 hz1 hz2 rfl (by decide) _ _ _ rfl (HO.out.alloc _) ⟨wr.heap.size, 0, none⟩ 1 1 [.string ((⟨#[32]⟩ : ByteArray) ++ s.extract a (a + 39))] rfl rfl (ap_one _ _ _) (ap_cell _) (by unfold maxLen; omega) L3 (by simp; omega) ?_)
          intro v' w2 hown' hgrow _
          have R := own_next hB.size hB (Below.refl _ wr) HO.out hown' hgrow
          have R1 := Lib.hid R.1
          have R2 := Lib.hid R.2
          clear R hown' hgrow HO
          go_wp2
          go_roundw
          case rel =>
            refine ⟨a + 39, _, by go_num, hbs, ?_, by rw [List.length_append]; exact R1.out, R2.out⟩
            rw [X2.out]
            show FK _ _ (List.map _ (xs ++ [_]))
            rw [List.map_append]
            show FK _ _ (_ ++ [((⟨#[32]⟩ : ByteArray) ++ s.extract a (a + 39)).data.toList])
            rw [blank_app, X1.out]
            exact N1.out
          case measure => simp [intOf]; omega
      · have e0 : s.data.toList.drop a = [] := List.drop_of_length_le (by show s.size ≤ a; omega)
        have E1 : pcl xs = fold s.data.toList := FK_end (by have := HK.out; rw [e0] at this; exact this)
        have R := HO.out
        rw [show xs.length = (fold s.data.toList).length by rw [← E1]; exact (List.length_map _).symm] at R
        have HR := Lib.hid R
        have HE := Lib.hid E1
        clear R E1 HO HK e0
        go_wp2
        go_ret
        exact ⟨hB, _, xs, rfl, HR.out, HE.out⟩
theorem at1_is {c : UInt8} : ∀ {l : List UInt8} (k : Nat) (hk : k < l.length), l[k] = c → (∀ j (hj : j < l.length), j < k → ¬ l[j] = c) → at1 c l = k
  | b :: r, 0, _, h, _ => if_pos h
  | b :: r, k + 1, hk, h, hn => by
    have h0 : ¬ b = c := hn 0 (by simp) (by omega)
    have ih := at1_is (l := r) k (by simpa using hk) h (fun j hj hjk => hn (j + 1) (by simpa using hj) (by omega))
    show (if b = c then 0 else at1 c r + 1) = _
    rw [if_neg h0, ih]
theorem at1_at {c : UInt8} : ∀ {l : List UInt8} (h : at1 c l < l.length), l[at1 c l] = c
  | b :: r, h => by
    by_cases k : b = c
    · have e : at1 c (b :: r) = 0 := if_pos k
      simp only [e, List.getElem_cons_zero]; exact k
    · have e : at1 c (b :: r) = at1 c r + 1 := if_neg k
      have h' : at1 c r < r.length := by rw [e] at h; simpa using h
      simp only [e, List.getElem_cons_succ]
      exact at1_at h'
theorem at1_not {c : UInt8} : ∀ {l : List UInt8}, (∀ j (hj : j < l.length), ¬ l[j] = c) → at1 c l = l.length
  | [], _ => rfl
  | b :: r, hn => by
    have h0 : ¬ b = c := hn 0 (by simp)
    have ih := at1_not (l := r) (fun j hj => hn (j + 1) (by simpa using hj))
    show (if b = c then 0 else at1 c r + 1) = _
    rw [if_neg h0, ih]; rfl
theorem ke_take {l : List UInt8} {k : Nat} (hk : k < l.length) (h : ∀ j (hj : j < l.length), j < k → 65 ≤ l[j].toNat ∧ l[j].toNat ≤ 90) : keB (l.take k) = (decide (1 ≤ k) && decide (k ≤ 12)) := by
  have hl : (l.take k).length = k := by rw [List.length_take]; omega
  have ha : ((l.take k).all fun b => decide (65 ≤ b.toNat ∧ b.toNat ≤ 90)) = true := by
    rw [List.all_eq_true]
    intro x hx
    obtain ⟨j, hj, rfl⟩ := List.getElem_of_mem hx
    rw [List.getElem_take]
    exact decide_eq_true (h j (by omega) (by omega))
  unfold keB
  rw [ha, hl, Bool.and_true]
theorem pa_none {s : ByteArray} (h : ∀ j (hj : j < s.data.toList.length), ¬ s.data.toList[j] = 58) : paB s = false := by
  have : ctF 58 s = false := decide_eq_false (by rw [at1_not h]; exact Nat.lt_irrefl _)
  unfold paB; rw [this]; rfl
/-- Where a byte that is no letter stands ahead of the first such byte there is no pair. -/
theorem pa_bad {s : ByteArray} (k : Nat) (hk : k < s.size) (h58 : ¬ s.data.toList[k]'hk = 58) (hg : ¬ (65 ≤ (s.data.toList[k]'hk).toNat ∧ (s.data.toList[k]'hk).toNat ≤ 90)) (hA : ∀ j (hj : j < s.data.toList.length), j < k → 65 ≤ s.data.toList[j].toNat ∧ s.data.toList[j].toNat ≤ 90) : paB s = false := by
  by_cases hf : at1 58 s.data.toList < s.size
  · have hh := at1_hit 58 (l := s.data.toList) hf
    have e1 : ctA 58 s = s.extract 0 (at1 58 s.data.toList) := if_pos hf
    have e2 : (ctA 58 s).data.toList = s.data.toList.take (at1 58 s.data.toList) := by rw [e1]; simp
    have hat : s.data.toList[at1 58 s.data.toList]'hf = 58 := at1_at hf
    have hgt : k < at1 58 s.data.toList := by
      rcases Nat.lt_trichotomy (at1 58 s.data.toList) k with q | q | q
      · have := hA _ hf q
        rw [hat] at this
        exact absurd this (by decide)
      · exact absurd (by rw [← hat]; congr 1; exact q.symm) h58
      · exact q
    have : keB (ctA 58 s).data.toList = false := by
      rw [e2]
      refine ke_bad k (by rw [List.length_take]; have : s.data.toList.length = s.size := rfl; omega) ?_
      rw [List.getElem_take]
      exact hg
    unfold paB
    rw [this, Bool.and_false]
  · have : ctF 58 s = false := decide_eq_false hf
    unfold paB; rw [this]; rfl
set_option maxRecDepth 100000 in
set_option maxHeartbeats 2000000 in
/-- The document's Pair: what it tells of a text that is one; of another whatever texts. -/
theorem refPair_any (s : ByteArray) (w : World) (hs : s.size ≤ 140737488355328) :
    Calls Tryd.prog 14 #[.string s] w fun e w' => ∃ a b, e = .returned (.tuple #[.string a, .string b, .bool (paB s)]) ∧ (paB s = true → a = ctA 58 s ∧ b = ctB 58 s) ∧ Below w.heap.size w w' := by
  go_enter Tryd.func14, Tryd.ntmps14
  go_wp2
  go_loop [5] (fun i => ∃ k : Nat, k ≤ s.size ∧ i = .int .i64 k ∧ ∀ j (hj : j < s.data.toList.length), j < k → 65 ≤ s.data.toList[j].toNat ∧ s.data.toList[j].toNat ≤ 90) (fun i => s.size - (intOf i).toNat)
  case atStart => exact ⟨0, Nat.zero_le _, rfl, fun j _ h => absurd h (Nat.not_lt_zero _)⟩
  case round =>
    obtain ⟨k, hk, rfl, hA⟩ := hrel
    have HA := Lib.hid hA
    clear hA
    by_cases hlt : k < s.size
    · obtain ⟨b, hb0⟩ : ∃ b, b = s[k] := ⟨_, rfl⟩
      have hb1 : (s[k].toNat : Int) = (b.toNat : Int) := by rw [hb0]
      have hbl : s.data.toList[k]'hlt = b := hb0.symm
      by_cases h58 : b = 58
      · subst h58
        have A1 := Lib.hid (at1_is (l := s.data.toList) k hlt hbl (fun j hj hjk q => by have := HA.out j hj hjk; rw [q] at this; exact absurd this (by decide)))
        have KE := Lib.hid (ke_take (k := k) (l := s.data.toList) hlt HA.out)
        have F1 : ctF 58 s = true := decide_eq_true (by rw [A1.out]; exact hlt)
        have E1 := Lib.hid (show ctA 58 s = s.extract 0 k by unfold ctA; rw [A1.out, if_pos hlt])
        have E2 := Lib.hid (show ctB 58 s = s.extract (k + 1) s.size by unfold ctB; rw [A1.out, if_pos hlt])
        have EK : (s.extract 0 k).data.toList = s.data.toList.take k := by simp
        have PB := Lib.hid (show paB s = (decide (1 ≤ k) && decide (k ≤ 12)) by unfold paB; rw [F1, E1.out, EK, KE.out]; rfl)
        clear hb0 hbl F1 EK
        by_cases k1 : 1 ≤ k
        · have d1 : decide ((1 : Int) ≤ (k : Int)) = true := decide_eq_true (by omega)
          by_cases k2 : k ≤ 12
          · have d2 : decide ((k : Int) ≤ 12) = true := decide_eq_true (by omega)
            have PT := Lib.hid (show paB s = true by rw [PB.out, decide_eq_true k1, decide_eq_true k2]; rfl)
            go_wp2
            go_quiet (fail)
            go_wp2
            go_ret3
            exact ⟨_, _, by rw [PT.out]; rfl, fun _ => ⟨E1.out.symm, E2.out.symm⟩, ln_drewN (Below.refl _ _) _⟩
          · have d2 : decide ((k : Int) ≤ 12) = false := decide_eq_false (by omega)
            have PT := Lib.hid (show paB s = false by rw [PB.out, decide_eq_false k2]; simp)
            go_wp2
            go_quiet (fail)
            go_wp2
            go_ret3
            exact ⟨_, _, by rw [PT.out]; rfl, fun q => (by rw [PT.out] at q; cases q), ln_drewN (Below.refl _ _) _⟩
        · have d1 : decide ((1 : Int) ≤ (k : Int)) = false := decide_eq_false (by omega)
          have PT := Lib.hid (show paB s = false by rw [PB.out, decide_eq_false k1]; rfl)
          go_wp2
          go_quiet (fail)
          go_wp2
          go_ret3
          exact ⟨_, _, by rw [PT.out]; rfl, fun q => (by rw [PT.out] at q; cases q), ln_drewN (Below.refl _ _) _⟩
      · have p58 : ((b.toNat : Int) == 58) = false := u8n h58
        by_cases hg : 65 ≤ b.toNat ∧ b.toNat ≤ 90
        · have NX := Lib.hid (show ∀ j (hj : j < s.data.toList.length), j < k + 1 → 65 ≤ s.data.toList[j].toNat ∧ s.data.toList[j].toNat ≤ 90 from fun j hj h => by
            rcases Nat.lt_or_ge j k with q | q
            · exact HA.out j hj q
            · obtain rfl : j = k := by omega
              rw [hbl]; exact hg)
          have p1 : ¬ (b.toNat : Int) < 65 := by omega
          have p2 : ¬ (90 : Int) < (b.toNat : Int) := by omega
          clear hg hb0 hbl h58
          go_wp2
          go_round
          case rel => exact ⟨k + 1, by omega, by go_num, NX.out⟩
          case measure => simp [intOf]; omega
        · have PT := Lib.hid (pa_bad (s := s) k hlt (by rw [hbl]; exact h58) (by rw [hbl]; exact hg) HA.out)
          have p1 : (b.toNat : Int) < 65 ∨ (90 : Int) < (b.toNat : Int) := by omega
          clear hb0 hbl h58
          rcases p1 with p1 | p1
          · go_wp2
            go_ret3
            exact ⟨_, _, by rw [PT.out]; rfl, fun q => (by rw [PT.out] at q; cases q), Below.refl _ _⟩
          · have p2 : ¬ (b.toNat : Int) < 65 := by omega
            go_wp2
            go_ret3
            exact ⟨_, _, by rw [PT.out]; rfl, fun q => (by rw [PT.out] at q; cases q), Below.refl _ _⟩
    · have PT := Lib.hid (pa_none (s := s) (fun j hj q => by have := HA.out j hj (by have : s.data.toList.length = s.size := rfl; omega); rw [q] at this; exact absurd this (by decide)))
      go_wp2
      go_ret3
      exact ⟨_, _, by rw [PT.out]; rfl, fun q => (by rw [PT.out] at q; cases q), Below.refl _ _⟩
end Go.Proofs.YtoafdacgekmomafDoor
