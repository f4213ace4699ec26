/-
  What is proved here: what package event's closures answer, and lists.All and lists.Rises at them; isName and isText (contracts over the translation). mk_evchk.py writes this text.
-/
import Derived.Test.YtcillnphabddaaeGreatDoorEvLow
import Derived.Lib.ConvBytes
namespace Go.Proofs.YtcillnphabddaaeGreatDoor
open Go.RowKit Cal Txt

/-- A slice reads as bytes. -/
def Byt (w : World) (v : Value) (l : List UInt8) : Prop :=
  ∃ b off cap, v = .slice (some ⟨b, off, none⟩) l.length cap ∧ ∀ i, i < l.length → w.cell? ⟨b, off + i, none⟩ = some (.int .u8 (l.getD i 0).toNat)
theorem letc_any (b : UInt8) (w : World) :
    Calls Tryz.prog 23 #[.int .u8 b.toNat] w fun e w' => e = .returned (.bool (letB b)) ∧ w' = w := by
  have N : Hid (letB b = decide (97 ≤ b.toNat ∧ b.toNat ≤ 122)) := Lib.hid rfl
  generalize b.toNat = n at N ⊢
  by_cases h : (97 : Int) ≤ n
  all_goals
    go_enter Tryz.func23, Tryz.ntmps23
    go_wp2
    go_ret
    exact ⟨ret_bool (by rw [N.out, Bool.eq_iff_iff]; simp; omega), rfl⟩
theorem sgnc_any (b : UInt8) (w : World) :
    Calls Tryz.prog 24 #[.int .u8 b.toNat] w fun e w' => e = .returned (.bool (sgnB b)) ∧ w' = w := by
  have N : Hid (sgnB b = decide (32 ≤ b.toNat ∧ b.toNat ≤ 126)) := Lib.hid rfl
  generalize b.toNat = n at N ⊢
  by_cases h : (32 : Int) ≤ n
  all_goals
    go_enter Tryz.func24, Tryz.ntmps24
    go_wp2
    go_ret
    exact ⟨ret_bool (by rw [N.out, Bool.eq_iff_iff]; simp; omega), rfl⟩
set_option maxHeartbeats 1000000 in
theorem all_byt (g : FuncId) (p : UInt8 → Bool) (eg : ∀ args w, (callFunc g args).run Tryz.prog w = .ok (.enter g args) w)
    (hg : ∀ (n : UInt8) W, Calls Tryz.prog g #[.int .u8 n.toNat] W fun e w' => e = .returned (.bool (p n)) ∧ w' = W) (v : Value) (l : List UInt8) (w : World) (hv : Byt w v l) (hl : l.length ≤ 1000) :
    Calls Tryz.prog 22 #[v, .func (.func g) #[] #[]] w fun e w' => e = .returned (.bool (l.all p)) ∧ w' = w := by
  obtain ⟨b, off, cap, rfl, hc⟩ := hv
  have HC := Lib.hid hc
  have HG := Lib.hid hg
  clear hc hg
  go_enter Tryz.func22, Tryz.ntmps22
  go_wp2
  go_loop [9] (fun i => ∃ k : Nat, k ≤ l.length ∧ i = .int .i64 k ∧ (l.take k).all p = true) (fun i => l.length - (intOf i).toNat)
  case atStart => exact ⟨0, Nat.zero_le _, rfl, rfl⟩
  case round =>
    obtain ⟨k, hk, rfl, hF⟩ := hrel
    have HF := Lib.hid hF
    clear hF
    by_cases hlt : k < l.length
    · have ck := HC.out k hlt
      obtain ⟨x, hx⟩ : ∃ x, x = l.getD k 0 := ⟨_, rfl⟩
      rw [← hx] at ck
      have HX := Lib.hid hx
      clear hx
      go_wp2_with fail
      refine (HG.out x _).mono ?_
      rintro e w' ⟨rfl, hw⟩
      subst hw
      rcases hp : p x with _ | _
      · have N0 : Hid (l.all p = false) := Lib.hid (all_not p l k 0 hlt (by rw [← HX.out]; exact hp))
        go_wp2
        go_ret
        exact ⟨ret_bool N0.out.symm, rfl⟩
      · have N1 : Hid ((l.take (k + 1)).all p = true) := Lib.hid (all_take p l k 0 hlt HF.out (by rw [← HX.out]; exact hp))
        go_wp2
        go_round
        case rel => exact ⟨k + 1, by omega, by go_num, N1.out⟩
        case measure => simp [intOf]; omega
    · have N1 : Hid (l.all p = true) := Lib.hid (all_end p l k hlt HF.out)
      go_wp2
      go_ret
      exact ⟨ret_bool N1.out.symm, rfl⟩
theorem conv_byt (s : ByteArray) (w : World) : ∃ cp X, (convert 9 51 (.string s)).run Tryz.prog w = .ok (.slice (some ⟨w.heap.size, 0, none⟩) s.size cp) X ∧ Byt X (.slice (some ⟨w.heap.size, 0, none⟩) s.size cp) s.data.toList ∧ Below w.heap.size w X := by
  refine ⟨_, _, Lib.run_convert_string_bytes w 9 51 5 s Tryz.underlying9 Tryz.underlying51 Tryz.underlying5, ⟨_, _, _, by rw [size_len], fun i hi => ?_⟩, ⟨rfl, rfl, rfl, by rw [Lib.bytesWorld_size]; omega, fun k hk => Lib.bytesWorld_at_old _ _ _ _ hk⟩⟩
  rw [Nat.zero_add]
  exact Lib.bytesWorld_cell w 5 s i (by rw [← size_len]; exact hi)
set_option maxHeartbeats 1000000 in
theorem isName_any (s : ByteArray) (w : World) :
    Calls Tryz.prog 9 #[.string s] w fun e w' => e = .returned (.bool (nmB s)) ∧ Below w.heap.size w w' := by
  rcases h1 : decide ((1 : Int) ≤ (s.size : Int) ∧ (s.size : Int) ≤ 8) with _ | _
  · have N : Hid (nmB s = false) := Lib.hid (by unfold nmB; rw [decide_eq_false (fun q => absurd h1 (by simp; omega))]; rfl)
    go_enter Tryz.func9, Tryz.ntmps9
    go_wp2_with (go_at_call 11; refine (isFrom_any _ _ _ _).mono ?_; rintro e w' ⟨rfl, rfl⟩; rw [h1])
    go_ret
    exact ⟨ret_bool N.out.symm, Below.refl _ _⟩
  · have h2 := of_decide_eq_true h1
    have N : Hid (nmB s = s.data.toList.all letB) := Lib.hid (by unfold nmB; rw [decide_eq_true (by omega)]; rfl)
    obtain ⟨cp, X, cv, hy, hB⟩ := conv_byt s w
    have K0 := all_byt 23 letB (enters_of Tryz.func23 (by kernel_rfl) rfl) letc_any _ _ X hy (by rw [size_len]; omega)
    rw [← N.out] at K0
    have K := Lib.hid K0
    have HB := Lib.hid hB
    clear hy hB h2 K0 N
    go_enter Tryz.func9, Tryz.ntmps9
    go_wp2_with (first | (go_at_call 11; refine (isFrom_any _ _ _ _).mono ?_; rintro e w' ⟨rfl, rfl⟩; rw [h1]) | (go_at_call 22; refine K.out.mono ?_; rintro e w' ⟨rfl, hw⟩; replace hw := hw.symm; subst hw))
    go_ret
    exact ⟨rfl, HB.out⟩
set_option maxHeartbeats 1000000 in
theorem isText_any (s : ByteArray) (w : World) :
    Calls Tryz.prog 10 #[.string s] w fun e w' => e = .returned (.bool (txB s)) ∧ Below w.heap.size w w' := by
  by_cases h1 : s.size ≤ 60
  case neg =>
    have h2 : ¬ (s.size : Int) ≤ 60 := by omega
    have N : Hid (txB s = false) := Lib.hid (by unfold txB; rw [decide_eq_false h1]; rfl)
    clear h1
    go_enter Tryz.func10, Tryz.ntmps10
    go_wp2
    go_ret
    exact ⟨ret_bool N.out.symm, Below.refl _ _⟩
  have h2 : (s.size : Int) ≤ 60 := by omega
  have N : Hid (txB s = s.data.toList.all sgnB) := Lib.hid (by unfold txB; rw [decide_eq_true h1]; rfl)
  obtain ⟨cp, X, cv, hy, hB⟩ := conv_byt s w
  have K0 := all_byt 24 sgnB (enters_of Tryz.func24 (by kernel_rfl) rfl) sgnc_any _ _ X hy (by rw [size_len]; omega)
  rw [← N.out] at K0
  have K := Lib.hid K0
  have HB := Lib.hid hB
  clear hy hB K0 N h1
  go_enter Tryz.func10, Tryz.ntmps10
  go_wp2_with (go_at_call 22; refine K.out.mono ?_; rintro e w' ⟨rfl, hw⟩; replace hw := hw.symm; subst hw)
  go_ret
  exact ⟨rfl, HB.out⟩
theorem isChange_any (x : Int × Int) (w : World) :
    Calls Tryz.prog 27 #[.agg #[.int .i64 x.1, .int .i64 x.2]] w fun e w' => e = .returned (.bool (chB x)) ∧ Below w.heap.size w w' := by
  obtain ⟨n, k⟩ := x
  show Calls Tryz.prog 27 #[.agg #[.int .i64 n, .int .i64 k]] w fun e w' => e = .returned (.bool (ist n && ((k == 0) || ist k))) ∧ Below w.heap.size w w'
  rcases h1 : ist n with _ | _
  all_goals
    rcases h2 : (k == 0) with _ | _
    all_goals
      go_enter Tryz.func27, Tryz.ntmps27
      go_wp2_with (go_at_call 7; refine (isTime_any _ _).mono ?_; rintro e w' ⟨rfl, rfl⟩; first | rw [h1] | skip)
      go_ret
      exact ⟨rfl, (Below.refl _ _).alloc (Nat.le_refl _) _⟩
theorem eabove_any (a b : Int) (w : World) :
    Calls Tryz.prog 28 #[.int .i64 a, .int .i64 b] w fun e w' => e = .returned (.bool (decide (b < a))) ∧ w' = w := by
  go_enter Tryz.func28, Tryz.ntmps28
  go_wp2
  go_ret
  exact ⟨rfl, rfl⟩
def cltB (a b : Int × Int) : Bool := decide (a.1 < b.1)
theorem ebehind_any (x y : Int × Int) (w : World) :
    Calls Tryz.prog 29 #[.agg #[.int .i64 x.1, .int .i64 x.2], .agg #[.int .i64 y.1, .int .i64 y.2]] w fun e w' => e = .returned (.bool (cltB y x)) ∧ Below w.heap.size w w' := by
  go_enter Tryz.func29, Tryz.ntmps29
  go_wp2
  go_ret
  exact ⟨rfl, ((Below.refl _ _).alloc (Nat.le_refl _) _).alloc (by simp) _⟩
theorem criB_iff {l : List (Int × Int)} : criB l = true ↔ ∀ j, j + 1 < l.length → cltB (l.getD j (0, 0)) (l.getD (j + 1) (0, 0)) = true := by
  unfold criB cltB
  rw [List.all_eq_true]
  exact ⟨fun h j hj => h j (List.mem_range.2 (by omega)), fun h j hj => h j (by have := List.mem_range.1 hj; omega)⟩
theorem cri_next {l : List (Int × Int)} {k : Nat} (k1 : 1 ≤ k) (hF : ∀ j, j + 1 < k → cltB (l.getD j (0, 0)) (l.getD (j + 1) (0, 0)) = true) (h : cltB (l.getD (k - 1) (0, 0)) (l.getD k (0, 0)) = true) : ∀ j, j + 1 < k + 1 → cltB (l.getD j (0, 0)) (l.getD (j + 1) (0, 0)) = true := fun j hj => by
  rcases Nat.lt_or_ge (j + 1) k with g | g
  · exact hF j g
  · obtain rfl : j = k - 1 := by omega
    rw [show k - 1 + 1 = k by omega]; exact h
theorem cri_not {l : List (Int × Int)} {k : Nat} (k1 : 1 ≤ k) (hk : k < l.length) (h : cltB (l.getD (k - 1) (0, 0)) (l.getD k (0, 0)) = false) : criB l = false := by
  rcases e : criB l with _ | _
  · rfl
  · have := criB_iff.1 e (k - 1) (by omega)
    rw [show k - 1 + 1 = k by omega, h] at this
    cases this
theorem cri_yes {l : List (Int × Int)} {k : Nat} (hk : ¬ k < l.length) (hF : ∀ j, j + 1 < k → cltB (l.getD j (0, 0)) (l.getD (j + 1) (0, 0)) = true) : criB l = true :=
  criB_iff.2 (fun j hj => hF j (by omega))
set_option maxHeartbeats 1000000 in
theorem all_chg (g : FuncId) (p : Int × Int → Bool) (eg : ∀ args w, (callFunc g args).run Tryz.prog w = .ok (.enter g args) w)
    (hg : ∀ (x : Int × Int) W, Calls Tryz.prog g #[.agg #[.int .i64 x.1, .int .i64 x.2]] W fun e w' => e = .returned (.bool (p x)) ∧ Below W.heap.size W w') (v : Value) (l : List (Int × Int)) (w : World) (hv : Nths w v l) (hl : l.length ≤ 1000) :
    Calls Tryz.prog 31 #[v, .func (.func g) #[] #[]] w fun e w' => e = .returned (.bool (l.all p)) ∧ Below w.heap.size w w' := by
  have HV := Lib.hid hv
  obtain ⟨a, cap, rfl, hc⟩ := hv
  rcases hc with rfl | ⟨b, off, rfl, hc⟩
  · go_enter Tryz.func31, Tryz.ntmps31
    go_wp2
    go_loop [9] (fun i => i = .int .i64 0) (fun _ => 0)
    case atStart => rfl
    case round =>
      subst hrel
      go_wp2
      go_ret
      exact ⟨rfl, Below.refl _ _⟩
  · have HG := Lib.hid hg
    clear hc hg
    go_enter Tryz.func31, Tryz.ntmps31
    go_wp2
    go_loopw [9] (fun i wr => ∃ k : Nat, k ≤ l.length ∧ i = .int .i64 k ∧ (l.take k).all p = true ∧ Below w.heap.size w wr) (fun i _ => l.length - (intOf i).toNat)
    case atStart => exact ⟨0, Nat.zero_le _, rfl, rfl, Below.refl _ _⟩
    case round =>
      obtain ⟨k, hk, rfl, hF, hB⟩ := hrel
      have HF := Lib.hid hF
      clear hF
      by_cases hlt : k < l.length
      · obtain ⟨a', c', e', hc⟩ := HV.out.on hB
        rcases hc with hc | ⟨b', off', ea, hc⟩
        · rw [hc] at hlt; simp at hlt
        obtain ⟨⟨rfl, rfl⟩, rfl⟩ : (b = b' ∧ off = off') ∧ cap = c' := by simpa [ea] using e'
        obtain ⟨k1, k2⟩ := hc k hlt
        obtain ⟨x, hx⟩ : ∃ x, x = l.getD k (0, 0) := ⟨_, rfl⟩
        rw [← hx] at k1 k2
        have HX := Lib.hid hx
        clear hx hc ea e'
        go_wp2_with fail
        refine (HG.out x _).mono ?_
        rintro e w' ⟨rfl, hb⟩
        have hB2 := (hB.alloc hB.size _).trans (hb.mono (hB.alloc hB.size _).size)
        clear hb
        rcases hp : p x with _ | _
        · have N0 : Hid (l.all p = false) := Lib.hid (all_not p l k (0, 0) hlt (by rw [← HX.out]; exact hp))
          go_wp2
          go_ret
          exact ⟨ret_bool N0.out.symm, hB2⟩
        · have N1 : Hid ((l.take (k + 1)).all p = true) := Lib.hid (all_take p l k (0, 0) hlt HF.out (by rw [← HX.out]; exact hp))
          go_wp2
          go_roundw
          case rel => exact ⟨k + 1, by omega, by go_num, N1.out, hB2⟩
          case measure => simp [intOf]; omega
      · have N1 : Hid (l.all p = true) := Lib.hid (all_end p l k hlt HF.out)
        go_wp2
        go_ret
        exact ⟨ret_bool N1.out.symm, hB⟩
set_option maxHeartbeats 1000000 in
theorem rises_tim (v : Value) (l : List Int) (w : World) (hv : Ints w v l) (hl : l.length ≤ 1000) :
    Calls Tryz.prog 32 #[v, .func (.func 28) #[] #[]] w fun e w' => e = .returned (.bool (risB l)) ∧ Below w.heap.size w w' := by
  obtain ⟨a, cap, rfl, hc⟩ := hv
  rcases hc with rfl | ⟨b, off, rfl, hc⟩
  · go_enter Tryz.func32, Tryz.ntmps32
    go_wp2
    go_loop [5] (fun i => i = .int .i64 1) (fun _ => 0)
    case atStart => rfl
    case round =>
      subst hrel
      go_wp2
      go_ret
      exact ⟨rfl, Below.refl _ _⟩
  · have HC := Lib.hid hc
    clear hc
    go_enter Tryz.func32, Tryz.ntmps32
    go_wp2
    go_loopw [5] (fun i wr => ∃ k : Nat, 1 ≤ k ∧ (k ≤ l.length ∨ k = 1) ∧ i = .int .i64 k ∧ Below w.heap.size w wr ∧ (∀ i, i < l.length → wr.cell? ⟨b, off + i, none⟩ = some (.int .i64 (l.getD i 0))) ∧ ∀ j, j + 1 < k → l.getD j 0 < l.getD (j + 1) 0) (fun i _ => l.length - (intOf i).toNat)
    case atStart => exact ⟨1, by omega, Or.inr rfl, rfl, Below.refl _ _, HC.out, fun j hj => by omega⟩
    case round =>
      obtain ⟨k, k1, hk, rfl, hB, hc, hF⟩ := hrel
      have HF := Lib.hid hF
      have HK := Lib.hid hc
      clear hF hc
      by_cases hlt : k < l.length
      · have ck := HK.out k hlt
        have cj := HK.out (k - 1) (by omega)
        obtain ⟨x, hx⟩ : ∃ x, x = l.getD k 0 := ⟨_, rfl⟩
        obtain ⟨y, hy⟩ : ∃ y, y = l.getD (k - 1) 0 := ⟨_, rfl⟩
        rw [← hx] at ck
        rw [← hy] at cj
        have HX := Lib.hid hx
        have HY := Lib.hid hy
        clear hx hy hk
        have i1 : (0 : Int) ≤ (k : Int) - 1 := by omega
        have i2 : (k : Int) - 1 < (l.length : Int) := by omega
        have i3 : ((k : Int) - 1).toNat = k - 1 := by omega
        by_cases c : y < x
        · have N1 : Hid (∀ j, j + 1 < k + 1 → l.getD j 0 < l.getD (j + 1) 0) := Lib.hid (fun j hj => by
            rcases Nat.lt_or_ge (j + 1) k with g | g
            · exact HF.out j g
            · obtain rfl : j = k - 1 := by omega
              rw [show k - 1 + 1 = k by omega, ← HX.out, ← HY.out]; exact c)
          go_wp2_with fail
          go_quiet ((go_at_call 28; exact Calls.quiet_of_same (eabove_any _ _ _)))
          go_wp2
          go_roundw
          case rel => exact ⟨k + 1, by omega, Or.inl (by omega), by go_num, below_drewN hB _, HK.out, N1.out⟩
          case measure => simp [intOf]; omega
        · have N0 : Hid (risB l = false) := Lib.hid (risB_not (k - 1) (by omega) (by rw [show k - 1 + 1 = k by omega, ← HX.out, ← HY.out]; exact c))
          have c' : decide (y < x) = false := decide_eq_false c
          clear c
          go_wp2_with fail
          go_quiet ((go_at_call 28; exact Calls.quiet_of_same (eabove_any _ _ _)))
          go_wp2
          go_ret
          exact ⟨ret_bool N0.out.symm, below_drewN hB _⟩
      · have N1 : Hid (risB l = true) := Lib.hid (risB_iff.2 (fun j hj => HF.out j (by omega)))
        clear hk
        go_wp2
        go_ret
        exact ⟨ret_bool N1.out.symm, hB⟩
set_option maxRecDepth 100000 in
set_option maxHeartbeats 2000000 in
theorem rises_chg (v : Value) (l : List (Int × Int)) (w : World) (hv : Nths w v l) (hl : l.length ≤ 1000) :
    Calls Tryz.prog 33 #[v, .func (.func 29) #[] #[]] w fun e w' => e = .returned (.bool (criB l)) ∧ Below w.heap.size w w' := by
  have HV := Lib.hid hv
  obtain ⟨a, cap, rfl, hc⟩ := hv
  rcases hc with rfl | ⟨b, off, rfl, hc⟩
  · go_enter Tryz.func33, Tryz.ntmps33
    go_wp2
    go_loop [5] (fun i => i = .int .i64 1) (fun _ => 0)
    case atStart => rfl
    case round =>
      subst hrel
      go_wp2
      go_ret
      exact ⟨rfl, Below.refl _ _⟩
  · clear hc
    go_enter Tryz.func33, Tryz.ntmps33
    go_wp2
    go_loopw [5] (fun i wr => ∃ k : Nat, 1 ≤ k ∧ (k ≤ l.length ∨ k = 1) ∧ i = .int .i64 k ∧ Below w.heap.size w wr ∧ ∀ j, j + 1 < k → cltB (l.getD j (0, 0)) (l.getD (j + 1) (0, 0)) = true) (fun i _ => l.length - (intOf i).toNat)
    case atStart => exact ⟨1, by omega, Or.inr rfl, rfl, Below.refl _ _, fun j hj => by omega⟩
    case round =>
      obtain ⟨k, k1, hk, rfl, hB, hF⟩ := hrel
      have HF := Lib.hid hF
      clear hF
      by_cases hlt : k < l.length
      · obtain ⟨a', c', e', hc⟩ := HV.out.on hB
        rcases hc with hc | ⟨b', off', ea, hc⟩
        · rw [hc] at hlt; simp at hlt
        obtain ⟨⟨rfl, rfl⟩, rfl⟩ : (b = b' ∧ off = off') ∧ cap = c' := by simpa [ea] using e'
        obtain ⟨q1, q2⟩ := hc k hlt
        obtain ⟨q3, q4⟩ := hc (k - 1) (by omega)
        obtain ⟨x, hx⟩ : ∃ x, x = l.getD k (0, 0) := ⟨_, rfl⟩
        obtain ⟨y, hy⟩ : ∃ y, y = l.getD (k - 1) (0, 0) := ⟨_, rfl⟩
        rw [← hx] at q1 q2
        rw [← hy] at q3 q4
        have HX := Lib.hid hx
        have HY := Lib.hid hy
        clear hx hy hk hc ea e'
        have i1 : (0 : Int) ≤ (k : Int) - 1 := by omega
        have i2 : (k : Int) - 1 < (l.length : Int) := by omega
        have i3 : ((k : Int) - 1).toNat = k - 1 := by omega
        have i0 : (1 : Int) ≤ (k : Int) := by omega
        have i4 : IntKind.i64.wrap ((k : Int) - 1) = (k : Int) - 1 := by rw [IntKind.wrap_i64]; omega
        have r1 := cell_regrown q1
        have r2 := cell_regrown q2
        have r3 := cell_regrown q3
        have r4 := cell_regrown q4
        rcases c : cltB y x with _ | _
        · have N0 : Hid (criB l = false) := Lib.hid (cri_not k1 hlt (by rw [← HX.out, ← HY.out]; exact c))
          go_wp2_with fail
          refine wp_region_quiet_below (by kernel_rfl) (by kernel_rfl) ?_
          repeat (quiet_step ((go_at_call 29; exact Calls.regrown_of (ebehind_any x y _))))
          refine wpQuiet_nil ?_
          intro _ hw'
          obtain ⟨⟨dq, osq⟩, hw''⟩ := hw'
          subst hw''
          have hB2 := hB.trans ((below_regrown wr dq osq).mono hB.size)
          generalize Sort.grow (redrawn wr dq) osq = W3 at hB2 ⊢
          clear r1 r2 r3 r4 q1 q2 q3 q4
          go_wp2
          go_ret
          exact ⟨ret_bool N0.out.symm, hB2⟩
        · have N1 := Lib.hid (cri_next k1 HF.out (by rw [← HX.out, ← HY.out]; exact c))
          go_wp2_with fail
          refine wp_region_quiet_below (by kernel_rfl) (by kernel_rfl) ?_
          repeat (quiet_step ((go_at_call 29; exact Calls.regrown_of (ebehind_any x y _))))
          refine wpQuiet_nil ?_
          intro _ hw'
          obtain ⟨⟨dq, osq⟩, hw''⟩ := hw'
          subst hw''
          have hB2 := hB.trans ((below_regrown wr dq osq).mono hB.size)
          generalize Sort.grow (redrawn wr dq) osq = W3 at hB2 ⊢
          clear r1 r2 r3 r4 q1 q2 q3 q4
          go_wp2
          go_roundw
          case rel => exact ⟨k + 1, by omega, Or.inl (by omega), by go_num, hB2, N1.out⟩
          case measure => simp [intOf]; omega
      · have N1 := Lib.hid (cri_yes hlt HF.out)
        clear hk
        go_wp2
        go_ret
        exact ⟨ret_bool N1.out.symm, hB⟩
end Go.Proofs.YtcillnphabddaaeGreatDoor
