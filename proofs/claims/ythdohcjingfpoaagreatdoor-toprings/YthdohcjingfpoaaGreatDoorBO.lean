/-
  What is proved here: what package event's closures answer, and lists.All and lists.Rises at them; isName and isText (contracts over the translation). mk_evchk.py writes this text.
  What is proved here: what package event's checkRule, checkLists and Check answer of any event (contracts over the translation).
  What is proved here: what package event's Check answers of any event (a contract over the translation).
-/
import Derived.Test.YthdohcjingfpoaaGreatDoorRL
import Derived.Lib.ConvBytes
import Derived.Test.YthdohcjingfpoaaGreatDoorBD
import Derived.Deep.Cut
namespace Go.Proofs.YthdohcjingfpoaaGreatDoor
open Go.RowKit Cal Txt

/-- A slice reads as bytes. -/
def Byt (w : World) (v : Value) (l : List UInt8) : Prop :=
  ∃ b off cap, v = .slice (some ⟨b, off, none⟩) l.length cap ∧ ∀ i, i < l.length → w.cell? ⟨b, off + i, none⟩ = some (.int .u8 (l.getD i 0).toNat)
theorem letc_any (b : UInt8) (w : World) :
    Calls Tryz.prog 139 #[.int .u8 b.toNat] w fun e w' => e = .returned (.bool (letB b)) ∧ w' = w := by
  have N : Hid (letB b = decide (97 ≤ b.toNat ∧ b.toNat ≤ 122)) := Lib.hid rfl
  generalize b.toNat = n at N ⊢
  by_cases h : (97 : Int) ≤ n
  all_goals
    go_enter Tryz.func139, Tryz.ntmps139
    go_wp2
    go_ret
    exact ⟨ret_bool (by rw [N.out, Bool.eq_iff_iff]; simp; omega), rfl⟩
theorem sgnc_any (b : UInt8) (w : World) :
    Calls Tryz.prog 140 #[.int .u8 b.toNat] w fun e w' => e = .returned (.bool (sgnB b)) ∧ w' = w := by
  have N : Hid (sgnB b = decide (32 ≤ b.toNat ∧ b.toNat ≤ 126)) := Lib.hid rfl
  generalize b.toNat = n at N ⊢
  by_cases h : (32 : Int) ≤ n
  all_goals
    go_enter Tryz.func140, Tryz.ntmps140
    go_wp2
    go_ret
    exact ⟨ret_bool (by rw [N.out, Bool.eq_iff_iff]; simp; omega), rfl⟩
set_option maxHeartbeats 1000000 in
theorem all_byt (g : FuncId) (p : UInt8 → Bool) (eg : ∀ args w, (callFunc g args).run Tryz.prog w = .ok (.enter g args) w)
    (hg : ∀ (n : UInt8) W, Calls Tryz.prog g #[.int .u8 n.toNat] W fun e w' => e = .returned (.bool (p n)) ∧ w' = W) (v : Value) (l : List UInt8) (w : World) (hv : Byt w v l) (hl : l.length ≤ 1000) :
    Calls Tryz.prog 138 #[v, .func (.func g) #[] #[]] w fun e w' => e = .returned (.bool (l.all p)) ∧ w' = w := by
  obtain ⟨b, off, cap, rfl, hc⟩ := hv
  have HC := Lib.hid hc
  have HG := Lib.hid hg
  clear hc hg
  go_enter Tryz.func138, Tryz.ntmps138
  go_wp2
  go_loop [9] (fun i => ∃ k : Nat, k ≤ l.length ∧ i = .int .i64 k ∧ (l.take k).all p = true) (fun i => l.length - (intOf i).toNat)
  case atStart => exact ⟨0, Nat.zero_le _, rfl, rfl⟩
  case round =>
    obtain ⟨k, hk, rfl, hF⟩ := hrel
    have HF := Lib.hid hF
    clear hF
    by_cases hlt : k < l.length
    · have ck := HC.out k hlt
      obtain ⟨x, hx⟩ : ∃ x, x = l.getD k 0 := ⟨_, rfl⟩
      rw [← hx] at ck
      have HX := Lib.hid hx
      clear hx
      go_wp2_with fail
      refine (HG.out x _).mono ?_
      rintro e w' ⟨rfl, hw⟩
      subst hw
      rcases hp : p x with _ | _
      · have N0 : Hid (l.all p = false) := Lib.hid (all_not p l k 0 hlt (by rw [← HX.out]; exact hp))
        go_wp2
        go_ret
        exact ⟨ret_bool N0.out.symm, rfl⟩
      · have N1 : Hid ((l.take (k + 1)).all p = true) := Lib.hid (all_take p l k 0 hlt HF.out (by rw [← HX.out]; exact hp))
        go_wp2
        go_round
        case rel => exact ⟨k + 1, by omega, by go_num, N1.out⟩
        case measure => simp [intOf]; omega
    · have N1 : Hid (l.all p = true) := Lib.hid (all_end p l k hlt HF.out)
      go_wp2
      go_ret
      exact ⟨ret_bool N1.out.symm, rfl⟩
theorem conv_byt (s : ByteArray) (w : World) : ∃ cp X, (convert 9 195 (.string s)).run Tryz.prog w = .ok (.slice (some ⟨w.heap.size, 0, none⟩) s.size cp) X ∧ Byt X (.slice (some ⟨w.heap.size, 0, none⟩) s.size cp) s.data.toList ∧ Below w.heap.size w X := by
  refine ⟨_, _, Lib.run_convert_string_bytes w 9 195 5 s Tryz.underlying9 Tryz.underlying195 Tryz.underlying5, ⟨_, _, _, by rw [size_len], fun i hi => ?_⟩, ⟨rfl, rfl, rfl, by rw [Lib.bytesWorld_size]; omega, fun k hk => Lib.bytesWorld_at_old _ _ _ _ hk⟩⟩
  rw [Nat.zero_add]
  exact Lib.bytesWorld_cell w 5 s i (by rw [← size_len]; exact hi)
set_option maxHeartbeats 1000000 in
theorem isName_any (s : ByteArray) (w : World) :
    Calls Tryz.prog 99 #[.string s] w fun e w' => e = .returned (.bool (nmB s)) ∧ Below w.heap.size w w' := by
  rcases h1 : decide ((1 : Int) ≤ (s.size : Int) ∧ (s.size : Int) ≤ 8) with _ | _
  · have N : Hid (nmB s = false) := Lib.hid (by unfold nmB; rw [decide_eq_false (fun q => absurd h1 (by simp; omega))]; rfl)
    go_enter Tryz.func99, Tryz.ntmps99
    go_wp2_with (go_at_call 101; refine (isFrom_any _ _ _ _).mono ?_; rintro e w' ⟨rfl, rfl⟩; rw [h1])
    go_ret
    exact ⟨ret_bool N.out.symm, Below.refl _ _⟩
  · have h2 := of_decide_eq_true h1
    have N : Hid (nmB s = s.data.toList.all letB) := Lib.hid (by unfold nmB; rw [decide_eq_true (by omega)]; rfl)
    obtain ⟨cp, X, cv, hy, hB⟩ := conv_byt s w
    have K0 := all_byt 139 letB (enters_of Tryz.func139 (by kernel_rfl) rfl) letc_any _ _ X hy (by rw [size_len]; omega)
    rw [← N.out] at K0
    have K := Lib.hid K0
    have HB := Lib.hid hB
    clear hy hB h2 K0 N
    go_enter Tryz.func99, Tryz.ntmps99
    go_wp2_with (first | (go_at_call 101; refine (isFrom_any _ _ _ _).mono ?_; rintro e w' ⟨rfl, rfl⟩; rw [h1]) | (go_at_call 138; refine K.out.mono ?_; rintro e w' ⟨rfl, hw⟩; replace hw := hw.symm; subst hw))
    go_ret
    exact ⟨rfl, HB.out⟩
set_option maxHeartbeats 1000000 in
theorem isText_any (s : ByteArray) (w : World) :
    Calls Tryz.prog 100 #[.string s] w fun e w' => e = .returned (.bool (txB s)) ∧ Below w.heap.size w w' := by
  by_cases h1 : s.size ≤ 60
  case neg =>
    have h2 : ¬ (s.size : Int) ≤ 60 := by omega
    have N : Hid (txB s = false) := Lib.hid (by unfold txB; rw [decide_eq_false h1]; rfl)
    clear h1
    go_enter Tryz.func100, Tryz.ntmps100
    go_wp2
    go_ret
    exact ⟨ret_bool N.out.symm, Below.refl _ _⟩
  have h2 : (s.size : Int) ≤ 60 := by omega
  have N : Hid (txB s = s.data.toList.all sgnB) := Lib.hid (by unfold txB; rw [decide_eq_true h1]; rfl)
  obtain ⟨cp, X, cv, hy, hB⟩ := conv_byt s w
  have K0 := all_byt 140 sgnB (enters_of Tryz.func140 (by kernel_rfl) rfl) sgnc_any _ _ X hy (by rw [size_len]; omega)
  rw [← N.out] at K0
  have K := Lib.hid K0
  have HB := Lib.hid hB
  clear hy hB K0 N h1
  go_enter Tryz.func100, Tryz.ntmps100
  go_wp2_with (go_at_call 138; refine K.out.mono ?_; rintro e w' ⟨rfl, hw⟩; replace hw := hw.symm; subst hw)
  go_ret
  exact ⟨rfl, HB.out⟩
theorem isChange_any (x : Int × Int) (w : World) :
    Calls Tryz.prog 143 #[.agg #[.int .i64 x.1, .int .i64 x.2]] w fun e w' => e = .returned (.bool (chB x)) ∧ Below w.heap.size w w' := by
  obtain ⟨n, k⟩ := x
  show Calls Tryz.prog 143 #[.agg #[.int .i64 n, .int .i64 k]] w fun e w' => e = .returned (.bool (ist n && ((k == 0) || ist k))) ∧ Below w.heap.size w w'
  rcases h1 : ist n with _ | _
  all_goals
    rcases h2 : (k == 0) with _ | _
    all_goals
      go_enter Tryz.func143, Tryz.ntmps143
      go_wp2_with (go_at_call 51; refine (isTime_any _ _).mono ?_; rintro e w' ⟨rfl, rfl⟩; first | rw [h1] | skip)
      go_ret
      exact ⟨rfl, (Below.refl _ _).alloc (Nat.le_refl _) _⟩
theorem eabove_any (a b : Int) (w : World) :
    Calls Tryz.prog 144 #[.int .i64 a, .int .i64 b] w fun e w' => e = .returned (.bool (decide (b < a))) ∧ w' = w := by
  go_enter Tryz.func144, Tryz.ntmps144
  go_wp2
  go_ret
  exact ⟨rfl, rfl⟩
def cltB (a b : Int × Int) : Bool := decide (a.1 < b.1)
theorem ebehind_any (x y : Int × Int) (w : World) :
    Calls Tryz.prog 145 #[.agg #[.int .i64 x.1, .int .i64 x.2], .agg #[.int .i64 y.1, .int .i64 y.2]] w fun e w' => e = .returned (.bool (cltB y x)) ∧ Below w.heap.size w w' := by
  go_enter Tryz.func145, Tryz.ntmps145
  go_wp2
  go_ret
  exact ⟨rfl, ((Below.refl _ _).alloc (Nat.le_refl _) _).alloc (by simp) _⟩
theorem criB_iff {l : List (Int × Int)} : criB l = true ↔ ∀ j, j + 1 < l.length → cltB (l.getD j (0, 0)) (l.getD (j + 1) (0, 0)) = true := by
  unfold criB cltB
  rw [List.all_eq_true]
  exact ⟨fun h j hj => h j (List.mem_range.2 (by omega)), fun h j hj => h j (by have := List.mem_range.1 hj; omega)⟩
theorem cri_next {l : List (Int × Int)} {k : Nat} (k1 : 1 ≤ k) (hF : ∀ j, j + 1 < k → cltB (l.getD j (0, 0)) (l.getD (j + 1) (0, 0)) = true) (h : cltB (l.getD (k - 1) (0, 0)) (l.getD k (0, 0)) = true) : ∀ j, j + 1 < k + 1 → cltB (l.getD j (0, 0)) (l.getD (j + 1) (0, 0)) = true := fun j hj => by
  rcases Nat.lt_or_ge (j + 1) k with g | g
  · exact hF j g
  · obtain rfl : j = k - 1 := by omega
    rw [show k - 1 + 1 = k by omega]; exact h
theorem cri_not {l : List (Int × Int)} {k : Nat} (k1 : 1 ≤ k) (hk : k < l.length) (h : cltB (l.getD (k - 1) (0, 0)) (l.getD k (0, 0)) = false) : criB l = false := by
  rcases e : criB l with _ | _
  · rfl
  · have := criB_iff.1 e (k - 1) (by omega)
    rw [show k - 1 + 1 = k by omega, h] at this
    cases this
theorem cri_yes {l : List (Int × Int)} {k : Nat} (hk : ¬ k < l.length) (hF : ∀ j, j + 1 < k → cltB (l.getD j (0, 0)) (l.getD (j + 1) (0, 0)) = true) : criB l = true :=
  criB_iff.2 (fun j hj => hF j (by omega))
set_option maxHeartbeats 1000000 in
theorem all_chg (g : FuncId) (p : Int × Int → Bool) (eg : ∀ args w, (callFunc g args).run Tryz.prog w = .ok (.enter g args) w)
    (hg : ∀ (x : Int × Int) W, Calls Tryz.prog g #[.agg #[.int .i64 x.1, .int .i64 x.2]] W fun e w' => e = .returned (.bool (p x)) ∧ Below W.heap.size W w') (v : Value) (l : List (Int × Int)) (w : World) (hv : Nths w v l) (hl : l.length ≤ 1000) :
    Calls Tryz.prog 147 #[v, .func (.func g) #[] #[]] w fun e w' => e = .returned (.bool (l.all p)) ∧ Below w.heap.size w w' := by
  have HV := Lib.hid hv
  obtain ⟨a, cap, rfl, hc⟩ := hv
  rcases hc with rfl | ⟨b, off, rfl, hc⟩
  · go_enter Tryz.func147, Tryz.ntmps147
    go_wp2
    go_loop [9] (fun i => i = .int .i64 0) (fun _ => 0)
    case atStart => rfl
    case round =>
      subst hrel
      go_wp2
      go_ret
      exact ⟨rfl, Below.refl _ _⟩
  · have HG := Lib.hid hg
    clear hc hg
    go_enter Tryz.func147, Tryz.ntmps147
    go_wp2
    go_loopw [9] (fun i wr => ∃ k : Nat, k ≤ l.length ∧ i = .int .i64 k ∧ (l.take k).all p = true ∧ Below w.heap.size w wr) (fun i _ => l.length - (intOf i).toNat)
    case atStart => exact ⟨0, Nat.zero_le _, rfl, rfl, Below.refl _ _⟩
    case round =>
      obtain ⟨k, hk, rfl, hF, hB⟩ := hrel
      have HF := Lib.hid hF
      clear hF
      by_cases hlt : k < l.length
      · obtain ⟨a', c', e', hc⟩ := HV.out.on hB
        rcases hc with hc | ⟨b', off', ea, hc⟩
        · rw [hc] at hlt; simp at hlt
        obtain ⟨⟨rfl, rfl⟩, rfl⟩ : (b = b' ∧ off = off') ∧ cap = c' := by simpa [ea] using e'
        obtain ⟨k1, k2⟩ := hc k hlt
        obtain ⟨x, hx⟩ : ∃ x, x = l.getD k (0, 0) := ⟨_, rfl⟩
        rw [← hx] at k1 k2
        have HX := Lib.hid hx
        clear hx hc ea e'
        go_wp2_with fail
        refine (HG.out x _).mono ?_
        rintro e w' ⟨rfl, hb⟩
        have hB2 := (hB.alloc hB.size _).trans (hb.mono (hB.alloc hB.size _).size)
        clear hb
        rcases hp : p x with _ | _
        · have N0 : Hid (l.all p = false) := Lib.hid (all_not p l k (0, 0) hlt (by rw [← HX.out]; exact hp))
          go_wp2
          go_ret
          exact ⟨ret_bool N0.out.symm, hB2⟩
        · have N1 : Hid ((l.take (k + 1)).all p = true) := Lib.hid (all_take p l k (0, 0) hlt HF.out (by rw [← HX.out]; exact hp))
          go_wp2
          go_roundw
          case rel => exact ⟨k + 1, by omega, by go_num, N1.out, hB2⟩
          case measure => simp [intOf]; omega
      · have N1 : Hid (l.all p = true) := Lib.hid (all_end p l k hlt HF.out)
        go_wp2
        go_ret
        exact ⟨ret_bool N1.out.symm, hB⟩
set_option maxHeartbeats 1000000 in
theorem rises_tim (v : Value) (l : List Int) (w : World) (hv : Ints w v l) (hl : l.length ≤ 1000) :
    Calls Tryz.prog 148 #[v, .func (.func 144) #[] #[]] w fun e w' => e = .returned (.bool (risB l)) ∧ Below w.heap.size w w' := by
  obtain ⟨a, cap, rfl, hc⟩ := hv
  rcases hc with rfl | ⟨b, off, rfl, hc⟩
  · go_enter Tryz.func148, Tryz.ntmps148
    go_wp2
    go_loop [5] (fun i => i = .int .i64 1) (fun _ => 0)
    case atStart => rfl
    case round =>
      subst hrel
      go_wp2
      go_ret
      exact ⟨rfl, Below.refl _ _⟩
  · have HC := Lib.hid hc
    clear hc
    go_enter Tryz.func148, Tryz.ntmps148
    go_wp2
    go_loopw [5] (fun i wr => ∃ k : Nat, 1 ≤ k ∧ (k ≤ l.length ∨ k = 1) ∧ i = .int .i64 k ∧ Below w.heap.size w wr ∧ (∀ i, i < l.length → wr.cell? ⟨b, off + i, none⟩ = some (.int .i64 (l.getD i 0))) ∧ ∀ j, j + 1 < k → l.getD j 0 < l.getD (j + 1) 0) (fun i _ => l.length - (intOf i).toNat)
    case atStart => exact ⟨1, by omega, Or.inr rfl, rfl, Below.refl _ _, HC.out, fun j hj => by omega⟩
    case round =>
      obtain ⟨k, k1, hk, rfl, hB, hc, hF⟩ := hrel
      have HF := Lib.hid hF
      have HK := Lib.hid hc
      clear hF hc
      by_cases hlt : k < l.length
      · have ck := HK.out k hlt
        have cj := HK.out (k - 1) (by omega)
        obtain ⟨x, hx⟩ : ∃ x, x = l.getD k 0 := ⟨_, rfl⟩
        obtain ⟨y, hy⟩ : ∃ y, y = l.getD (k - 1) 0 := ⟨_, rfl⟩
        rw [← hx] at ck
        rw [← hy] at cj
        have HX := Lib.hid hx
        have HY := Lib.hid hy
        clear hx hy hk
        have i1 : (0 : Int) ≤ (k : Int) - 1 := by omega
        have i2 : (k : Int) - 1 < (l.length : Int) := by omega
        have i3 : ((k : Int) - 1).toNat = k - 1 := by omega
        by_cases c : y < x
        · have N1 : Hid (∀ j, j + 1 < k + 1 → l.getD j 0 < l.getD (j + 1) 0) := Lib.hid (fun j hj => by
            rcases Nat.lt_or_ge (j + 1) k with g | g
            · exact HF.out j g
            · obtain rfl : j = k - 1 := by omega
              rw [show k - 1 + 1 = k by omega, ← HX.out, ← HY.out]; exact c)
          go_wp2_with fail
          go_quiet ((go_at_call 144; exact Calls.quiet_of_same (eabove_any _ _ _)))
          go_wp2
          go_roundw
          case rel => exact ⟨k + 1, by omega, Or.inl (by omega), by go_num, below_drewN hB _, HK.out, N1.out⟩
          case measure => simp [intOf]; omega
        · have N0 : Hid (risB l = false) := Lib.hid (risB_not (k - 1) (by omega) (by rw [show k - 1 + 1 = k by omega, ← HX.out, ← HY.out]; exact c))
          have c' : decide (y < x) = false := decide_eq_false c
          clear c
          go_wp2_with fail
          go_quiet ((go_at_call 144; exact Calls.quiet_of_same (eabove_any _ _ _)))
          go_wp2
          go_ret
          exact ⟨ret_bool N0.out.symm, below_drewN hB _⟩
      · have N1 : Hid (risB l = true) := Lib.hid (risB_iff.2 (fun j hj => HF.out j (by omega)))
        clear hk
        go_wp2
        go_ret
        exact ⟨ret_bool N1.out.symm, hB⟩
set_option maxRecDepth 100000 in
set_option maxHeartbeats 2000000 in
theorem rises_chg (v : Value) (l : List (Int × Int)) (w : World) (hv : Nths w v l) (hl : l.length ≤ 1000) :
    Calls Tryz.prog 149 #[v, .func (.func 145) #[] #[]] w fun e w' => e = .returned (.bool (criB l)) ∧ Below w.heap.size w w' := by
  have HV := Lib.hid hv
  obtain ⟨a, cap, rfl, hc⟩ := hv
  rcases hc with rfl | ⟨b, off, rfl, hc⟩
  · go_enter Tryz.func149, Tryz.ntmps149
    go_wp2
    go_loop [5] (fun i => i = .int .i64 1) (fun _ => 0)
    case atStart => rfl
    case round =>
      subst hrel
      go_wp2
      go_ret
      exact ⟨rfl, Below.refl _ _⟩
  · clear hc
    go_enter Tryz.func149, Tryz.ntmps149
    go_wp2
    go_loopw [5] (fun i wr => ∃ k : Nat, 1 ≤ k ∧ (k ≤ l.length ∨ k = 1) ∧ i = .int .i64 k ∧ Below w.heap.size w wr ∧ ∀ j, j + 1 < k → cltB (l.getD j (0, 0)) (l.getD (j + 1) (0, 0)) = true) (fun i _ => l.length - (intOf i).toNat)
    case atStart => exact ⟨1, by omega, Or.inr rfl, rfl, Below.refl _ _, fun j hj => by omega⟩
    case round =>
      obtain ⟨k, k1, hk, rfl, hB, hF⟩ := hrel
      have HF := Lib.hid hF
      clear hF
      by_cases hlt : k < l.length
      · obtain ⟨a', c', e', hc⟩ := HV.out.on hB
        rcases hc with hc | ⟨b', off', ea, hc⟩
        · rw [hc] at hlt; simp at hlt
        obtain ⟨⟨rfl, rfl⟩, rfl⟩ : (b = b' ∧ off = off') ∧ cap = c' := by simpa [ea] using e'
        obtain ⟨q1, q2⟩ := hc k hlt
        obtain ⟨q3, q4⟩ := hc (k - 1) (by omega)
        obtain ⟨x, hx⟩ : ∃ x, x = l.getD k (0, 0) := ⟨_, rfl⟩
        obtain ⟨y, hy⟩ : ∃ y, y = l.getD (k - 1) (0, 0) := ⟨_, rfl⟩
        rw [← hx] at q1 q2
        rw [← hy] at q3 q4
        have HX := Lib.hid hx
        have HY := Lib.hid hy
        clear hx hy hk hc ea e'
        have i1 : (0 : Int) ≤ (k : Int) - 1 := by omega
        have i2 : (k : Int) - 1 < (l.length : Int) := by omega
        have i3 : ((k : Int) - 1).toNat = k - 1 := by omega
        have i0 : (1 : Int) ≤ (k : Int) := by omega
        have i4 : IntKind.i64.wrap ((k : Int) - 1) = (k : Int) - 1 := by rw [IntKind.wrap_i64]; omega
        have r1 := cell_regrown q1
        have r2 := cell_regrown q2
        have r3 := cell_regrown q3
        have r4 := cell_regrown q4
        rcases c : cltB y x with _ | _
        · have N0 : Hid (criB l = false) := Lib.hid (cri_not k1 hlt (by rw [← HX.out, ← HY.out]; exact c))
          go_wp2_with fail
          refine wp_region_quiet_below (by kernel_rfl) (by kernel_rfl) ?_
          repeat (quiet_step ((go_at_call 145; exact Calls.regrown_of (ebehind_any x y _))))
          refine wpQuiet_nil ?_
          intro _ hw'
          obtain ⟨⟨dq, osq⟩, hw''⟩ := hw'
          subst hw''
          have hB2 := hB.trans ((below_regrown wr dq osq).mono hB.size)
          generalize Sort.grow (redrawn wr dq) osq = W3 at hB2 ⊢
          clear r1 r2 r3 r4 q1 q2 q3 q4
          go_wp2
          go_ret
          exact ⟨ret_bool N0.out.symm, hB2⟩
        · have N1 := Lib.hid (cri_next k1 HF.out (by rw [← HX.out, ← HY.out]; exact c))
          go_wp2_with fail
          refine wp_region_quiet_below (by kernel_rfl) (by kernel_rfl) ?_
          repeat (quiet_step ((go_at_call 145; exact Calls.regrown_of (ebehind_any x y _))))
          refine wpQuiet_nil ?_
          intro _ hw'
          obtain ⟨⟨dq, osq⟩, hw''⟩ := hw'
          subst hw''
          have hB2 := hB.trans ((below_regrown wr dq osq).mono hB.size)
          generalize Sort.grow (redrawn wr dq) osq = W3 at hB2 ⊢
          clear r1 r2 r3 r4 q1 q2 q3 q4
          go_wp2
          go_roundw
          case rel => exact ⟨k + 1, by omega, Or.inl (by omega), by go_num, hB2, N1.out⟩
          case measure => simp [intOf]; omega
      · have N1 := Lib.hid (cri_yes hlt HF.out)
        clear hk
        go_wp2
        go_ret
        exact ⟨ret_bool N1.out.symm, hB⟩
end Go.Proofs.YthdohcjingfpoaaGreatDoor
namespace Go.Proofs.YthdohcjingfpoaaGreatDoor
open Go.RowKit Cal Txt

set_option maxHeartbeats 1000000 in
theorem checkRule_any (e : Evt) (s : Evs) (w : World) (hv : EvB w e s) :
    Calls Tryz.prog 102 #[.agg (ecells e s)] w fun x w' => x = .returned (fault (ruF e)) ∧ Below w.heap.size w w' := by
  obtain ⟨nm, tx, st, ln, rp, ru, mo, no, ch, al⟩ := e
  obtain ⟨vm, vd, vw, vp, vo, vn, vc, va⟩ := s
  have B0 := (Below.refl w.heap.size w).alloc (Nat.le_refl _) (.cells #[.string nm, .string tx, .int .i64 st, .int .i64 ln, .bool rp, .int .i64 ru.freq, .int .i64 ru.every, .int .i64 ru.count, .int .i64 ru.till, vm, vd, vw, vp, vo, vn, vc, va] 40)
  have HB := Lib.hid B0
  have hr := (hv.on B0).rule
  have K := Lib.hid (check_any ru _ _ hr)
  have KE := Lib.hid (isEmpty_any ru _ _ hr)
  clear hr hv B0
  dsimp only [ecells]
  rcases rp with _ | _
  · have N : Hid (ruF ⟨nm, tx, st, ln, false, ru, mo, no, ch, al⟩ = if emB ru = true then 0 else 3) := Lib.hid rfl
    clear K
    rcases h : emB ru with _ | _
    all_goals
      rw [h] at N KE
      go_enter Tryz.func102, Tryz.ntmps102
      go_wp2_with fail
      refine KE.out.mono ?_
      rintro x w1 ⟨rfl, hb⟩
      have HB1 := Lib.hid (HB.out.trans (hb.mono HB.out.size))
      clear hb KE HB
      go_wp2
      go_ret
      exact ⟨by rw [N.out]; rfl, HB1.out⟩
  · have N : Hid (ruF ⟨nm, tx, st, ln, true, ru, mo, no, ch, al⟩ = rf ru) := Lib.hid rfl
    clear KE
    go_enter Tryz.func102, Tryz.ntmps102
    go_wp2_with fail
    refine K.out.mono ?_
    rintro x w1 ⟨rfl, hb⟩
    have HB1 := Lib.hid (HB.out.trans (hb.mono HB.out.size))
    clear hb K HB
    go_wp2
    go_ret
    exact ⟨by rw [N.out]; rfl, HB1.out⟩
theorem max_three (ts : Array TypeId) (t : TypeId) (a b c : Int) : ∃ M : Int, (100 < M ↔ (100 < a ∨ 100 < b ∨ 100 < c)) ∧ ∀ W, (Builtin.max_ ts t #[.int .i64 a, .int .i64 b, .int .i64 c]).run Tryz.prog W = .ok (.int .i64 M) W := by
  refine ⟨if c > (if b > a then b else a) then c else (if b > a then b else a), ?_, fun W => rfl⟩
  split <;> split at * <;> omega
theorem liF_full {e : Evt} (h : 100 < e.more.length ∨ 100 < e.nots.length ∨ 100 < e.chg.length ∨ 4 < e.alm.length) : liF e = 4 := if_pos (decide_eq_true h)
theorem liF_one {e : Evt} (h : ¬ (100 < e.more.length ∨ 100 < e.nots.length ∨ 100 < e.chg.length ∨ 4 < e.alm.length)) (k : (e.more.all ist && e.nots.all ist && e.chg.all chB) = false) : liF e = 1 := by
  unfold liF full
  rw [decide_eq_false h, if_neg (by decide), if_pos k]
theorem liF_rest {e : Evt} (h : ¬ (100 < e.more.length ∨ 100 < e.nots.length ∨ 100 < e.chg.length ∨ 4 < e.alm.length)) (k : (e.more.all ist && e.nots.all ist && e.chg.all chB) = true) : liF e = if (risB e.more && risB e.nots && criB e.chg) = false then 7 else 0 := by
  unfold liF full
  rw [decide_eq_false h, if_neg (by decide), if_neg (by rw [k]; decide)]
set_option maxRecDepth 100000 in
set_option maxHeartbeats 4000000 in
theorem checkLists_any (e : Evt) (s : Evs) (w : World) (hv : EvB w e s) :
    Calls Tryz.prog 103 #[.agg (ecells e s)] w fun x w' => x = .returned (fault (liF e)) ∧ Below w.heap.size w w' := by
  have hF := @liF_full e
  have h1 := @liF_one e
  have hR := @liF_rest e
  generalize liF e = F at hF h1 hR ⊢
  have HF := Lib.hid hF
  have H1 := Lib.hid h1
  have HR := Lib.hid hR
  obtain ⟨nm, tx, st, ln, rp, ru, mo, no, ch, al⟩ := e
  obtain ⟨vm, vd, vw, vp, vo, vn, vc, va⟩ := s
  dsimp only at HF H1 HR
  clear hF h1 hR
  have HV := Lib.hid (fun W (q : Below w.heap.size w W) => hv.on q)
  obtain ⟨_, _, _, _, ⟨ao, co, e1, _⟩, ⟨an, cn, e2, _⟩, ⟨ac, cc, e3, _⟩, aa, ca, e4, _⟩ := hv
  dsimp only at e1 e2 e3 e4
  rename_i y0 y1 y2 y3 y4 y5 y6 y7
  clear y0 y1 y2 y3 y4 y5 y6 y7
  subst e1 e2 e3 e4
  obtain ⟨M, hM, mx⟩ := max_three #[3, 3, 3] 3 (mo.length : Int) (no.length : Int) (ch.length : Int)
  have HB := Lib.hid ((Below.refl w.heap.size w).alloc (Nat.le_refl _) (.cells #[.string nm, .string tx, .int .i64 st, .int .i64 ln, .bool rp, .int .i64 ru.freq, .int .i64 ru.every, .int .i64 ru.count, .int .i64 ru.till, vm, vd, vw, vp, .slice ao mo.length co, .slice an no.length cn, .slice ac ch.length cc, .slice aa al.length ca] 40))
  have R0 := Lib.hid (EBox.new w ⟨nm, tx, st, ln, rp, ru, mo, no, ch, al⟩ ⟨vm, vd, vw, vp, .slice ao mo.length co, .slice an no.length cn, .slice ac ch.length cc, .slice aa al.length ca⟩ 40)
  dsimp only [ecells] at R0 ⊢
  by_cases hm : 100 < M
  · have N : Hid (F = 4) := Lib.hid (HF.out (by omega))
    clear hM HF H1 HR HV
    go_enter Tryz.func103, Tryz.ntmps103
    go_wp2
    go_ret
    exact ⟨by rw [N.out]; rfl, HB.out⟩
  by_cases ha : 4 < (al.length : Int)
  · have N : Hid (F = 4) := Lib.hid (HF.out (by omega))
    clear hM HF H1 HR HV
    go_enter Tryz.func103, Tryz.ntmps103
    go_wp2
    go_ret
    exact ⟨by rw [N.out]; rfl, HB.out⟩
  have q := H1.out (by omega)
  have q2 := HR.out (by omega)
  have b1 : mo.length ≤ 1000 := by omega
  have b2 : no.length ≤ 1000 := by omega
  have b3 : ch.length ≤ 1000 := by omega
  have G1 := Lib.hid q
  have G2 := Lib.hid q2
  clear q q2 H1 HR HF hM
  go_enter Tryz.func103, Tryz.ntmps103
  go_wp2_with fail
  generalize w.alloc (.cells #[.string nm, .string tx, .int .i64 st, .int .i64 ln, .bool rp, .int .i64 ru.freq, .int .i64 ru.every, .int .i64 ru.count, .int .i64 ru.till, vm, vd, vw, vp, .slice ao mo.length co, .slice an no.length cn, .slice ac ch.length cc, .slice aa al.length ca] 40) = W0 at HB R0 ⊢
  clear hm ha mx
  refine (all_int 51 ist (enters_of Tryz.func51 (by kernel_rfl) rfl) isTime_any _ mo W0 (HV.out _ HB.out).2.2.2.2.1 b1).mono ?_
  rintro x w1 ⟨rfl, hw⟩
  replace hw := hw.symm
  subst hw
  rcases h1 : mo.all ist with _ | _
  · have N : Hid (F = 1) := Lib.hid (G1.out (by rw [h1]; rfl))
    go_wp2
    go_ret
    exact ⟨by rw [N.out]; rfl, HB.out⟩
  have rl := R0.out.lt
  have c13 := R0.out.2.2.1
  have c14 := R0.out.2.2.2.1
  have c15 := R0.out.2.2.2.2.1
  dsimp only at c13 c14 c15
  go_wp2_with fail
  clear c13 c14 c15 rl
  refine (all_int 51 ist (enters_of Tryz.func51 (by kernel_rfl) rfl) isTime_any _ no W0 (HV.out _ HB.out).2.2.2.2.2.1 b2).mono ?_
  rintro x w1 ⟨rfl, hw⟩
  replace hw := hw.symm
  subst hw
  rcases h2 : no.all ist with _ | _
  · have N : Hid (F = 1) := Lib.hid (G1.out (by rw [h1, h2]; rfl))
    go_wp2
    go_ret
    exact ⟨by rw [N.out]; rfl, HB.out⟩
  have rl := R0.out.lt
  have c13 := R0.out.2.2.1
  have c14 := R0.out.2.2.2.1
  have c15 := R0.out.2.2.2.2.1
  dsimp only at c13 c14 c15
  go_wp2_with fail
  clear c13 c14 c15 rl
  refine (all_chg 143 chB (enters_of Tryz.func143 (by kernel_rfl) rfl) isChange_any _ ch W0 (HV.out _ HB.out).2.2.2.2.2.2.1 b3).mono ?_
  rintro x w1 ⟨rfl, hb⟩
  have HB1 := Lib.hid (HB.out.trans (hb.mono HB.out.size))
  have R1 := Lib.hid (R0.out.on hb)
  clear hb R0 HB
  rcases h3 : ch.all chB with _ | _
  · have N : Hid (F = 1) := Lib.hid (G1.out (by rw [h1, h2, h3]; rfl))
    go_wp2
    go_ret
    exact ⟨by rw [N.out]; rfl, HB1.out⟩
  have q := G2.out (by rw [h1, h2, h3]; rfl)
  have G := Lib.hid q
  clear q G1 G2 h1 h2
  have rl := R1.out.lt
  have c13 := R1.out.2.2.1
  have c14 := R1.out.2.2.2.1
  have c15 := R1.out.2.2.2.2.1
  dsimp only at c13 c14 c15
  go_wp2_with fail
  clear c13 c14 c15 rl
  refine (rises_tim _ mo w1 (HV.out _ HB1.out).2.2.2.2.1 b1).mono ?_
  rintro x w2 ⟨rfl, hb⟩
  have HB2 := Lib.hid (HB1.out.trans (hb.mono HB1.out.size))
  have R2 := Lib.hid (R1.out.on hb)
  clear hb R1 HB1 h3
  rcases h1 : risB mo with _ | _
  · have N : Hid (F = 7) := Lib.hid (by rw [G.out, h1]; rfl)
    go_wp2
    go_ret
    exact ⟨by rw [N.out]; rfl, HB2.out⟩
  have rl := R2.out.lt
  have c13 := R2.out.2.2.1
  have c14 := R2.out.2.2.2.1
  have c15 := R2.out.2.2.2.2.1
  dsimp only at c13 c14 c15
  go_wp2_with fail
  clear c13 c14 c15 rl
  refine (rises_tim _ no w2 (HV.out _ HB2.out).2.2.2.2.2.1 b2).mono ?_
  rintro x w3 ⟨rfl, hb⟩
  have HB3 := Lib.hid (HB2.out.trans (hb.mono HB2.out.size))
  have R3 := Lib.hid (R2.out.on hb)
  clear hb R2 HB2
  rcases h2 : risB no with _ | _
  · have N : Hid (F = 7) := Lib.hid (by rw [G.out, h1, h2]; rfl)
    go_wp2
    go_ret
    exact ⟨by rw [N.out]; rfl, HB3.out⟩
  have rl := R3.out.lt
  have c13 := R3.out.2.2.1
  have c14 := R3.out.2.2.2.1
  have c15 := R3.out.2.2.2.2.1
  dsimp only at c13 c14 c15
  go_wp2_with fail
  clear c13 c14 c15 rl
  refine (rises_chg _ ch w3 (HV.out _ HB3.out).2.2.2.2.2.2.1 b3).mono ?_
  rintro x w4 ⟨rfl, hb⟩
  have HB4 := Lib.hid (HB3.out.trans (hb.mono HB3.out.size))
  clear hb R3 HB3
  rcases h3 : criB ch with _ | _
  · have N : Hid (F = 7) := Lib.hid (by rw [G.out, h1, h2, h3]; rfl)
    go_wp2
    go_ret
    exact ⟨by rw [N.out]; rfl, HB4.out⟩
  · have N : Hid (F = 0) := Lib.hid (by rw [G.out, h1, h2, h3]; rfl)
    go_wp2
    go_ret
    exact ⟨by rw [N.out]; rfl, HB4.out⟩
end Go.Proofs.YthdohcjingfpoaaGreatDoor
namespace Go.Proofs.YthdohcjingfpoaaGreatDoor
open Go.RowKit Cal Txt

theorem amF_at : ∀ (l : List (Int × Bool × Int × Int)) (k : Nat), k < l.length → (∀ j, j < k → alF (l.getD j (0, false, 0, 0)) = 0) → ¬ alF (l.getD k (0, false, 0, 0)) = 0 → amF l = alF (l.getD k (0, false, 0, 0))
  | [], k, h, _, _ => by simp at h
  | x :: l, 0, _, _, g => if_neg g
  | x :: l, k + 1, h, f, g => by
    unfold amF
    rw [if_pos (show alF x = 0 from f 0 (by omega))]
    exact amF_at l k (by simpa using h) (fun j hj => f (j + 1) (by omega)) g
theorem amF_end : ∀ (l : List (Int × Bool × Int × Int)), (∀ j, j < l.length → alF (l.getD j (0, false, 0, 0)) = 0) → amF l = 0
  | [], _ => rfl
  | x :: l, f => by
    unfold amF
    rw [if_pos (show alF x = 0 from f 0 (by simp))]
    exact amF_end l (fun j hj => f (j + 1) (by simpa using hj))
theorem evF_2 {e : Evt} (h : (nmB e.name && txB e.text) = false) : evF e = 2 := if_pos h
theorem evF_1 {e : Evt} (h : (nmB e.name && txB e.text) = true) (k : (ist e.start && decide (0 ≤ e.len ∧ e.len ≤ 100000)) = false) : evF e = 1 := by
  unfold evF; rw [if_neg (by rw [h]; decide), if_pos k]
theorem evF_r {e : Evt} (h : (nmB e.name && txB e.text) = true) (k : (ist e.start && decide (0 ≤ e.len ∧ e.len ≤ 100000)) = true) : evF e = if ¬ ruF e = 0 then ruF e else if ¬ liF e = 0 then liF e else amF e.alm := by
  unfold evF; rw [if_neg (by rw [h]; decide), if_neg (by rw [k]; decide)]
theorem liF_alm {e : Evt} (h : liF e = 0) : e.alm.length ≤ 4 := by
  rcases Nat.lt_or_ge 4 e.alm.length with g | g
  · rw [liF_full (Or.inr (Or.inr (Or.inr g)))] at h; cases h
  · exact g
set_option maxRecDepth 100000 in
set_option maxHeartbeats 4000000 in
theorem echeck_any (e : Evt) (s : Evs) (w : World) (hv : EvB w e s) :
    Calls Tryz.prog 62 #[.agg (ecells e s)] w fun x w' => x = .returned (fault (evF e)) ∧ Below w.heap.size w w' := by
  have H2 := Lib.hid (@evF_2 e)
  have H1 := Lib.hid (@evF_1 e)
  have HR := Lib.hid (@evF_r e)
  generalize evF e = F at H2 H1 HR ⊢
  have B0 := (Below.refl w.heap.size w).alloc (Nat.le_refl _) (.cells (ecells e s) 40)
  have HV := Lib.hid (fun W (q : Below w.heap.size w W) => hv.on q)
  have KR := Lib.hid (fun W (q : Below w.heap.size w W) => checkRule_any e s W (hv.on q))
  have KL := Lib.hid (fun W (q : Below w.heap.size w W) => checkLists_any e s W (hv.on q))
  have R0 := Lib.hid (EBox.new w e s 40)
  have HB0 := Lib.hid B0
  generalize ruF e = RF at HR KR
  have HL := Lib.hid (@liF_alm e)
  generalize liF e = LF at HR KL HL
  obtain ⟨nm, tx, st, ln, rp, ru, mo, no, ch, al⟩ := e
  obtain ⟨vm, vd, vw, vp, vo, vn, vc, va⟩ := s
  dsimp only [ecells] at H2 H1 HR R0 KR KL HB0 HL ⊢
  obtain ⟨aa, ca, e4, _⟩ := hv.2.2.2.2.2.2.2
  rename_i y7
  clear y7 B0 hv
  dsimp only at e4
  subst e4
  go_enter Tryz.func62, Tryz.ntmps62
  go_wp2_with fail
  generalize w.alloc (.cells #[.string nm, .string tx, .int .i64 st, .int .i64 ln, .bool rp, .int .i64 ru.freq, .int .i64 ru.every, .int .i64 ru.count, .int .i64 ru.till, vm, vd, vw, vp, vo, vn, vc, .slice aa al.length ca] 40) = w0 at HB0 R0 ⊢
  -- the name
  refine (isName_any nm _).mono ?_
  rintro x w1 ⟨rfl, hb⟩
  have HB1 := Lib.hid (HB0.out.trans (hb.mono HB0.out.size))
  have R1 := Lib.hid (R0.out.on hb)
  clear hb HB0 R0
  rcases h1 : nmB nm with _ | _
  · have N : Hid (F = 2) := Lib.hid (H2.out (by rw [h1]; rfl))
    clear H2 H1 HR KR KL HV
    go_wp2
    go_ret
    exact ⟨by rw [N.out]; rfl, HB1.out⟩
  have rl := R1.out.lt
  have c1 := R1.out.1.2.1
  dsimp only at c1
  go_wp2_with fail
  clear c1 rl
  refine (isText_any tx _).mono ?_
  rintro x w2 ⟨rfl, hb⟩
  have HB2 := Lib.hid (HB1.out.trans (hb.mono HB1.out.size))
  have R2 := Lib.hid (R1.out.on hb)
  clear hb HB1 R1
  rcases h2 : txB tx with _ | _
  · have N : Hid (F = 2) := Lib.hid (H2.out (by rw [h1, h2]; rfl))
    clear H2 H1 HR KR KL HV
    go_wp2
    go_ret
    exact ⟨by rw [N.out]; rfl, HB2.out⟩
  have q1 := H1.out (by rw [h1, h2]; rfl)
  have qR := HR.out (by rw [h1, h2]; rfl)
  have G1 := Lib.hid q1
  have GR := Lib.hid qR
  clear H2 H1 HR q1 qR h1
  have rl := R2.out.lt
  have c2 := R2.out.1.2.2.1
  have c3 := R2.out.1.2.2.2.1
  dsimp only at c2 c3
  go_wp2_with fail
  refine (isTime_any st _).mono ?_
  rintro x w3 ⟨rfl, hw⟩
  replace hw := hw.symm
  subst hw
  rcases h3 : ist st with _ | _
  · have N : Hid (F = 1) := Lib.hid (G1.out (by rw [h3]; rfl))
    clear G1 GR KR KL HV
    go_wp2
    go_ret
    exact ⟨by rw [N.out]; rfl, HB2.out⟩
  go_wp2_with fail
  refine (isFrom_any 0 ln 100000 _).mono ?_
  rintro x w3 ⟨rfl, hw⟩
  replace hw := hw.symm
  subst hw
  rcases h4 : decide (0 ≤ ln ∧ ln ≤ 100000) with _ | _
  · have N : Hid (F = 1) := Lib.hid (G1.out (by rw [h3, h4]; rfl))
    clear G1 GR KR KL HV
    go_wp2
    go_ret
    exact ⟨by rw [N.out]; rfl, HB2.out⟩
  have qR := GR.out (by rw [h3, h4]; rfl)
  have GG := Lib.hid qR
  clear GR G1 qR h3 h4 h2 c2 c3 rl
  -- the rule
  have rl := R2.out.lt
  obtain ⟨⟨a0, a1, a2, a3, a4⟩, ⟨b0, b1, b2, b3, b4, b5, b6, b7⟩, c0, c1, c2, c3⟩ := R2.out
  dsimp only at a0 a1 a2 a3 a4 b0 b1 b2 b3 b4 b5 b6 b7 c0 c1 c2 c3
  go_wp2_with fail
  clear a0 a1 a2 a3 a4 b0 b1 b2 b3 b4 b5 b6 b7 c0 c1 c2 c3 rl
  refine (KR.out _ HB2.out).mono ?_
  rintro x w3 ⟨rfl, hb⟩
  have HB3 := Lib.hid (HB2.out.trans (hb.mono HB2.out.size))
  have R3 := Lib.hid (R2.out.on hb)
  clear hb HB2 R2 KR
  by_cases hr : RF = 0
  case neg =>
    have N : Hid (F = RF) := Lib.hid (GG.out.trans (if_pos hr))
    rw [efault_ne hr]
    have HF := Lib.hid hr
    clear hr GG KL HV
    go_wp2
    go_ret
    exact ⟨by rw [N.out, efault_ne HF.out]; rfl, HB3.out⟩
  have G2 := Lib.hid (GG.out.trans (if_neg (fun q => q hr)))
  rw [hr, efault_0]
  clear hr GG
  have rl := R3.out.lt
  obtain ⟨⟨a0, a1, a2, a3, a4⟩, ⟨b0, b1, b2, b3, b4, b5, b6, b7⟩, c0, c1, c2, c3⟩ := R3.out
  dsimp only at a0 a1 a2 a3 a4 b0 b1 b2 b3 b4 b5 b6 b7 c0 c1 c2 c3
  go_wp2_with fail
  clear a0 a1 a2 a3 a4 b0 b1 b2 b3 b4 b5 b6 b7 c0 c1 c2 c3 rl
  refine (KL.out _ HB3.out).mono ?_
  rintro x w4 ⟨rfl, hb⟩
  have HB4 := Lib.hid (HB3.out.trans (hb.mono HB3.out.size))
  have R4 := Lib.hid (R3.out.on hb)
  clear hb HB3 R3 KL
  by_cases hr : LF = 0
  case neg =>
    have N : Hid (F = LF) := Lib.hid (G2.out.trans (if_pos hr))
    rw [efault_ne hr]
    have HF := Lib.hid hr
    clear hr G2 HV
    go_wp2
    go_ret
    exact ⟨by rw [N.out, efault_ne HF.out]; rfl, HB4.out⟩
  have al4 : al.length ≤ 4 := HL.out hr
  have G3 : Hid (F = amF al) := Lib.hid (G2.out.trans (if_neg (fun q => q hr)))
  rw [hr, efault_0]
  clear hr G2
  have rl := R4.out.lt
  have c3 := R4.out.2.2.2.2.2
  dsimp only at c3
  go_wp2_with fail
  clear c3 rl
  have HVa := Lib.hid (fun W (q : Below w.heap.size w W) => (HV.out W q).2.2.2.2.2.2.2)
  clear HV R4
  dsimp only at HVa
  go_loopw [43] (fun i wr => ∃ k : Nat, k ≤ al.length ∧ i = .int .i64 k ∧ (∀ j, j < k → alF (al.getD j (0, false, 0, 0)) = 0) ∧ Below w.heap.size w wr) (fun i _ => al.length - (intOf i).toNat)
  case atStart => exact ⟨0, Nat.zero_le _, rfl, fun j hj => absurd hj (Nat.not_lt_zero _), HB4.out⟩
  case round =>
    obtain ⟨k, hk, rfl, hf, hB⟩ := hrel
    have HF := Lib.hid hf
    clear hf HB4
    by_cases hlt : k < al.length
    · obtain ⟨a', c', e', hc⟩ := HVa.out wr hB
      rcases hc with hc | ⟨b, off, ea, hc⟩
      · rw [hc] at hlt; simp at hlt
      obtain ⟨rfl, rfl⟩ : aa = a' ∧ ca = c' := by simpa using e'
      subst ea
      obtain ⟨k0, k1, k2, k3⟩ := hc k hlt
      obtain ⟨x, hx⟩ : ∃ x, x = al.getD k (0, false, 0, 0) := ⟨_, rfl⟩
      have NA := Lib.hid (fun q => amF_at al k hlt HF.out q)
      have NZ := Lib.hid (fun (q : alF x = 0) => show ∀ j, j < k + 1 → alF (al.getD j (0, false, 0, 0)) = 0 from fun j hj => by
        rcases Nat.lt_or_ge j k with g | g
        · exact HF.out j g
        · rw [show j = k by omega, ← hx]; exact q)
      rw [← hx] at k0 k1 k2 k3 NA
      obtain ⟨o, bb, rr, tt⟩ := x
      dsimp only at k0 k1 k2 k3
      have hB1 := hB.alloc hB.size (.cells #[.int .i64 o, .bool bb, .int .i64 rr, .int .i64 tt] 32)
      have KB := Lib.hid hB1
      clear hc hx e' hB1 hB HF
      go_wp2_with fail
      clear k0 k1 k2 k3
      refine (ealarm_any o bb rr tt _).mono ?_
      rintro y w5 ⟨rfl, hb⟩
      have KB2 := Lib.hid (KB.out.trans (hb.mono KB.out.size))
      clear hb KB
      by_cases hz : alF (o, bb, rr, tt) = 0
      · have N := Lib.hid (NZ.out hz)
        rw [hz, efault_0]
        clear hz NA NZ
        go_wp2
        go_roundw
        case rel => exact ⟨k + 1, by omega, by go_num, N.out, KB2.out⟩
        case measure => simp [intOf]; omega
      · have N : Hid (F = alF (o, bb, rr, tt)) := Lib.hid (G3.out.trans (NA.out hz))
        rw [efault_ne hz]
        have HZ := Lib.hid hz
        clear hz NA NZ
        go_wp2
        go_ret
        exact ⟨by rw [N.out, efault_ne HZ.out]; rfl, KB2.out⟩
    · have N : Hid (F = 0) := Lib.hid (G3.out.trans (amF_end al (fun j hj => HF.out j (by omega))))
      go_wp2
      go_ret
      exact ⟨by rw [N.out]; rfl, hB⟩
end Go.Proofs.YthdohcjingfpoaaGreatDoor
