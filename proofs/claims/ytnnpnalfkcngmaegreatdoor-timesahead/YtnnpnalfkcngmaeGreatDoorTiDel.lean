/-
  What is proved here: what slices.IndexFunc and slices.DeleteFunc answer at changes and the closures of event.movedInto (contracts over the translation).
-/
import Derived.Test.YtnnpnalfkcngmaeGreatDoorTiRow
namespace Go.Proofs.YtnnpnalfkcngmaeGreatDoor
open Go.RowKit Cal Txt

/-- A change is stored into a row. -/
theorem ch_store {ops : Array Oper} {rest : List Oper} {op : Oper} {a : Act} {W : World} {Q : Exit → Act → World → Prop} (hgd : op.guard = none) (x y : Operand) (ho : op.op = .store 54 x y) (hd : op.dst = none)
    (b o : Nat) (c : Int × Int) (hx : a.eval x = .pointer (some ⟨b, o, none⟩)) (hy : a.eval y = .agg #[.int .i64 c.1, .int .i64 c.2]) (ht : W.there b o 2)
    (h : wpList Tryz.prog ops Q rest a (W.setCells b o [.int .i64 c.1, .int .i64 c.2])) : wpList Tryz.prog ops Q (op :: rest) a W := by
  refine wpList_store_mid hgd 54 x y ho b o #[.int .i64 c.1, .int .i64 c.2] hx hy ht (by kernel_rfl) (by simp [Value.oneCell']) ?_
  rw [hd]
  exact h
/-- How the closure answers, whatever is beside one block. -/
def ClA (b : Nat) (w : World) (c1 c2 : Value) (p : Int × Int → Bool) : Prop :=
  ∀ (c : Int × Int) (W : World), Apt b w W → Calls Tryz.prog 121 #[.agg #[.int .i64 c.1, .int .i64 c.2], c1, c2] W fun e w' => e = .returned (.bool (p c)) ∧ Below W.heap.size W w'
set_option maxRecDepth 100000 in
set_option maxHeartbeats 1000000 in
theorem idxA (c1 c2 : Value) (p : Int × Int → Bool) (l : List (Int × Int)) (b off cap : Nat) (w : World) (hC : ClA b w c1 c2 p) (hh : Hol2 w b off l) (hl : l.length ≤ 1000000) :
    Calls Tryz.prog 61 #[.slice (some ⟨b, off, none⟩) l.length cap, .func (.func 121) #[] #[c1, c2]] w fun e w' => Below w.heap.size w w' ∧
      ((e = .returned (.int .i64 (-1)) ∧ l.any p = false) ∨ ∃ k : Nat, e = .returned (.int .i64 k) ∧ k < l.length ∧ (l.take k).any p = false ∧ p (l.getD k (0, 0)) = true) := by
  have HH := Lib.hid hh
  have HC := Lib.hid hC
  clear hh hC
  have eg : ∀ args w, (callFunc 121 args).run Tryz.prog w = .ok (.enter 121 args) w := enters_of Tryz.func121 (by kernel_rfl) rfl
  go_enter Tryz.func61, Tryz.ntmps61
  go_wp2
  go_loopw [8] (fun i wr => ∃ k : Nat, k ≤ l.length ∧ i = .int .i64 k ∧ (l.take k).any p = false ∧ Below w.heap.size w wr) (fun i _ => l.length - (intOf i).toNat)
  case atStart => exact ⟨0, Nat.zero_le _, rfl, rfl, Below.refl _ _⟩
  case round =>
    obtain ⟨k, hk, rfl, hF, hB⟩ := hrel
    have HF := Lib.hid hF
    have HB := Lib.hid hB
    clear hF
    by_cases hlt : k < l.length
    · obtain ⟨⟨k1, k2⟩, _, _⟩ := (HH.out.on hB) k hlt
      have bl := ecell_in k1
      have K := Lib.hid (HC.out (l.getD k (0, 0)) wr (apt_below b hB))
      obtain ⟨X, hX⟩ : ∃ X, X = l.getD k (0, 0) := ⟨_, rfl⟩
      rw [← hX] at k1 k2 K
      have HX := Lib.hid hX
      clear hX hB
      go_wp2_with fail
      refine K.out.mono ?_
      rintro e w2 ⟨rfl, hb⟩
      have HB2 := Lib.hid (HB.out.trans (hb.mono HB.out.size))
      clear hb K k1 k2 bl
      rcases hp : p X with _ | _
      · have N1 := Lib.hid (any_tk2 p l k hlt HF.out (by rw [← HX.out]; exact hp))
        go_wp2
        go_roundw
        case rel => exact ⟨k + 1, by omega, by go_num, N1.out, HB2.out⟩
        case measure => simp [intOf]; omega
      · have N1 : Hid (p (l.getD k (0, 0)) = true) := Lib.hid (by rw [← HX.out]; exact hp)
        go_wp2
        go_ret
        exact ⟨HB2.out, Or.inr ⟨k, rfl, hlt, HF.out, N1.out⟩⟩
    · have N1 : Hid (l.any p = false) := Lib.hid (by have := HF.out; rwa [List.take_of_length_le (by omega)] at this)
      go_wp2
      go_ret
      exact ⟨HB.out, Or.inl ⟨rfl, N1.out⟩⟩
set_option maxRecDepth 100000 in
set_option maxHeartbeats 4000000 in
theorem delA (c1 c2 : Value) (p : Int × Int → Bool) (l : List (Int × Int)) (b off cap : Nat) (w : World) (hC : ClA b w c1 c2 p) (hh : Hol2 w b off l) (h0 : 0 < l.length) (hcap : l.length ≤ cap) (hl : l.length ≤ 1000000) :
    Calls Tryz.prog 122 #[.slice (some ⟨b, off, none⟩) l.length cap, .func (.func 121) #[] #[c1, c2]] w fun e w' => e = .returned (.slice (some ⟨b, off, none⟩) (l.filter (fun x => !p x)).length cap) ∧ Hol2 w' b off (l.filter (fun x => !p x)) ∧ Apt b w w' := by
  have K := Lib.hid (idxA c1 c2 p l b off cap w hC hh hl)
  have HH := Lib.hid hh
  have HC := Lib.hid hC
  clear hh hC
  have eg : ∀ args w, (callFunc 121 args).run Tryz.prog w = .ok (.enter 121 args) w := enters_of Tryz.func121 (by kernel_rfl) rfl
  go_enter Tryz.func122, Tryz.ntmps122
  go_wp2_with fail
  refine K.out.mono ?_
  rintro e w1 ⟨hb1, hx⟩
  have B1 := Lib.hid hb1
  clear K hb1
  rcases hx with ⟨rfl, ha⟩ | ⟨k, rfl, hk, ha, hp⟩
  · have N : Hid (l.filter (fun x => !p x) = l) := Lib.hid (List.filter_eq_self.2 (fun x hx => by have := List.any_eq_false.1 ha x hx; simpa using this))
    clear ha
    go_wp2
    go_ret
    exact ⟨by rw [N.out]; rfl, by rw [N.out]; exact HH.out.on B1.out, apt_below b B1.out⟩
  · have D0 := Lib.hid (DInv2.begin hk ha hp)
    have nk : ((k : Int) == -1) = false := by simp
    clear ha hp
    go_wp2_with fail
    go_loopw [5, 6, 7] (fun iv jv _ wr => ∃ (i j : Nat) (d : List (Int × Int)), iv = .int .i64 i ∧ jv = .int .i64 j ∧ DInv2 l p j i d ∧ Hol2 wr b off d ∧ Apt b w wr) (fun _ jv _ _ => l.length - (intOf jv).toNat)
    case atStart => exact ⟨k, k + 1, l, rfl, by go_num, D0.out, HH.out.on B1.out, apt_below b B1.out⟩
    case round =>
      obtain ⟨i, j, d, rfl, rfl, hD, hh, hB⟩ := hrel
      have ij := hD.2.1
      have jl := hD.2.2.1
      have dl := hD.1
      have HD := Lib.hid hD
      have HHd := Lib.hid hh
      have HB := Lib.hid hB
      have bw := hh.lt (by omega)
      clear hD hh hB D0 B1
      by_cases hlt : j < l.length
      · obtain ⟨⟨k1, k2⟩, _, _⟩ := HHd.out j (by omega)
        rw [HD.out.2.2.2.2 j (Nat.le_refl _)] at k1 k2
        obtain ⟨X, hX⟩ : ∃ X, X = l.getD j (0, 0) := ⟨_, rfl⟩
        rw [← hX] at k1 k2
        have HX := Lib.hid hX
        have T3 := Two.new wr X.1 X.2 54
        have b3 : Below wr.heap.size wr (wr.alloc (.cells #[.int .i64 X.1, .int .i64 X.2] 54)) := (Below.refl _ _).alloc (Nat.le_refl _) _
        obtain ⟨W3, hW3⟩ : ∃ W3, W3 = wr.alloc (.cells #[.int .i64 X.1, .int .i64 X.2] 54) := ⟨_, rfl⟩
        rw [← hW3] at T3 b3
        have HW3 := Lib.hid hW3
        have HT3 := Lib.hid T3
        have B3 := Lib.hid b3
        have K := Lib.hid (HC.out X W3 (HB.out.trans (apt_below b b3)))
        clear hX hW3 T3 b3
        go_upto_region 8 with fail
        rw [← HW3.out]
        clear HW3 k1 k2
        have t0 := HT3.out.1
        have t1 := HT3.out.2
        have tl := HT3.out.lt
        go_wp2_with fail
        clear t0 t1 tl
        refine K.out.mono ?_
        rintro e w4 ⟨rfl, hb⟩
        have B4 := Lib.hid (B3.out.trans (hb.mono B3.out.size))
        have t0 := (HT3.out.on hb).1
        have t1 := (HT3.out.on hb).2
        have tl := (HT3.out.on hb).lt
        clear hb K B3 HT3
        have H4 := Lib.hid (HHd.out.on B4.out)
        have A4 := Lib.hid (HB.out.trans (apt_below b B4.out))
        rcases hp : p X with _ | _
        · have N1 := Lib.hid (HD.out.keep hlt (by rw [← HX.out]; exact hp))
          rw [← HX.out] at N1
          have SH := Lib.hid (H4.out.store (i := i) (by omega) X)
          have SA := Lib.hid (A4.out.trans (apt_cells b [.int .i64 X.1, .int .i64 X.2] (off + i * 2) w4))
          have TH := Lib.hid (H4.out.there (i := i) (by omega))
          go_wp2_with (refine ch_store ?s1 (.tmp 33) (.tmp 32) ?s2 ?s9 b (off + i * 2) X ?s3 ?s4 TH.out ?s5; (case s1 => rfl); (case s2 => rfl); (case s9 => rfl); (case s3 => rfl); (case s4 => rfl))
          go_roundw
          case rel => exact ⟨i + 1, j + 1, d.set i X, by go_num, by go_num, N1.out, SH.out, SA.out⟩
          case measure => simp [intOf]; omega
        · have N1 := Lib.hid (HD.out.skip hlt (by rw [← HX.out]; exact hp))
          go_wp2
          go_roundw
          case rel => exact ⟨i, j + 1, d, rfl, by go_num, N1.out, H4.out, A4.out⟩
          case measure => simp [intOf]; omega
      · obtain rfl : j = l.length := by omega
        have hcl : ∀ ty, (Builtin.clear_ #[26] ty #[.slice (some ⟨b, off + i * 2, none⟩) (l.length - i) (cap - i)]).run Tryz.prog wr = .ok (.tuple #[]) (wr.setCells b (off + i * 2) (List.replicate ((l.length - i) * 2) (.int .i64 0))) :=
          fun ty => run_clear2 wr ty b (off + i * 2) _ _ (by omega) (fun t ht => (HHd.out.cellsAt i t (by omega)).1) (fun t ht => (HHd.out.cellsAt i t (by omega)).2)
        have S := HHd.out.cut i (List.replicate ((l.length - i) * 2) (.int .i64 0))
        have N := HD.out.done
        have N2 : Hid ((l.filter (fun x => !p x)).length = i) := Lib.hid (by rw [← N, List.length_take]; omega)
        rw [N] at S
        have SH := Lib.hid S
        have SA := Lib.hid (HB.out.trans (apt_cells b (List.replicate ((l.length - i) * 2) (.int .i64 0)) (off + i * 2) wr))
        clear S N
        go_wp2
        go_ret
        exact ⟨by rw [N2.out]; rfl, SH.out, SA.out⟩
/-- How the closure answers, whatever is beside one block. -/
def ClB (b : Nat) (w : World) (c1 : Value) (p : Int × Int → Bool) : Prop :=
  ∀ (c : Int × Int) (W : World), Apt b w W → Calls Tryz.prog 125 #[.agg #[.int .i64 c.1, .int .i64 c.2], c1] W fun e w' => e = .returned (.bool (p c)) ∧ Below W.heap.size W w'
set_option maxRecDepth 100000 in
set_option maxHeartbeats 1000000 in
theorem idxB (c1 : Value) (p : Int × Int → Bool) (l : List (Int × Int)) (b off cap : Nat) (w : World) (hC : ClB b w c1 p) (hh : Hol2 w b off l) (hl : l.length ≤ 1000000) :
    Calls Tryz.prog 61 #[.slice (some ⟨b, off, none⟩) l.length cap, .func (.func 125) #[] #[c1]] w fun e w' => Below w.heap.size w w' ∧
      ((e = .returned (.int .i64 (-1)) ∧ l.any p = false) ∨ ∃ k : Nat, e = .returned (.int .i64 k) ∧ k < l.length ∧ (l.take k).any p = false ∧ p (l.getD k (0, 0)) = true) := by
  have HH := Lib.hid hh
  have HC := Lib.hid hC
  clear hh hC
  have eg : ∀ args w, (callFunc 125 args).run Tryz.prog w = .ok (.enter 125 args) w := enters_of Tryz.func125 (by kernel_rfl) rfl
  go_enter Tryz.func61, Tryz.ntmps61
  go_wp2
  go_loopw [8] (fun i wr => ∃ k : Nat, k ≤ l.length ∧ i = .int .i64 k ∧ (l.take k).any p = false ∧ Below w.heap.size w wr) (fun i _ => l.length - (intOf i).toNat)
  case atStart => exact ⟨0, Nat.zero_le _, rfl, rfl, Below.refl _ _⟩
  case round =>
    obtain ⟨k, hk, rfl, hF, hB⟩ := hrel
    have HF := Lib.hid hF
    have HB := Lib.hid hB
    clear hF
    by_cases hlt : k < l.length
    · obtain ⟨⟨k1, k2⟩, _, _⟩ := (HH.out.on hB) k hlt
      have bl := ecell_in k1
      have K := Lib.hid (HC.out (l.getD k (0, 0)) wr (apt_below b hB))
      obtain ⟨X, hX⟩ : ∃ X, X = l.getD k (0, 0) := ⟨_, rfl⟩
      rw [← hX] at k1 k2 K
      have HX := Lib.hid hX
      clear hX hB
      go_wp2_with fail
      refine K.out.mono ?_
      rintro e w2 ⟨rfl, hb⟩
      have HB2 := Lib.hid (HB.out.trans (hb.mono HB.out.size))
      clear hb K k1 k2 bl
      rcases hp : p X with _ | _
      · have N1 := Lib.hid (any_tk2 p l k hlt HF.out (by rw [← HX.out]; exact hp))
        go_wp2
        go_roundw
        case rel => exact ⟨k + 1, by omega, by go_num, N1.out, HB2.out⟩
        case measure => simp [intOf]; omega
      · have N1 : Hid (p (l.getD k (0, 0)) = true) := Lib.hid (by rw [← HX.out]; exact hp)
        go_wp2
        go_ret
        exact ⟨HB2.out, Or.inr ⟨k, rfl, hlt, HF.out, N1.out⟩⟩
    · have N1 : Hid (l.any p = false) := Lib.hid (by have := HF.out; rwa [List.take_of_length_le (by omega)] at this)
      go_wp2
      go_ret
      exact ⟨HB.out, Or.inl ⟨rfl, N1.out⟩⟩
set_option maxRecDepth 100000 in
set_option maxHeartbeats 4000000 in
theorem delB (c1 : Value) (p : Int × Int → Bool) (l : List (Int × Int)) (b off cap : Nat) (w : World) (hC : ClB b w c1 p) (hh : Hol2 w b off l) (h0 : 0 < l.length) (hcap : l.length ≤ cap) (hl : l.length ≤ 1000000) :
    Calls Tryz.prog 122 #[.slice (some ⟨b, off, none⟩) l.length cap, .func (.func 125) #[] #[c1]] w fun e w' => e = .returned (.slice (some ⟨b, off, none⟩) (l.filter (fun x => !p x)).length cap) ∧ Hol2 w' b off (l.filter (fun x => !p x)) ∧ Apt b w w' := by
  have K := Lib.hid (idxB c1 p l b off cap w hC hh hl)
  have HH := Lib.hid hh
  have HC := Lib.hid hC
  clear hh hC
  have eg : ∀ args w, (callFunc 125 args).run Tryz.prog w = .ok (.enter 125 args) w := enters_of Tryz.func125 (by kernel_rfl) rfl
  go_enter Tryz.func122, Tryz.ntmps122
  go_wp2_with fail
  refine K.out.mono ?_
  rintro e w1 ⟨hb1, hx⟩
  have B1 := Lib.hid hb1
  clear K hb1
  rcases hx with ⟨rfl, ha⟩ | ⟨k, rfl, hk, ha, hp⟩
  · have N : Hid (l.filter (fun x => !p x) = l) := Lib.hid (List.filter_eq_self.2 (fun x hx => by have := List.any_eq_false.1 ha x hx; simpa using this))
    clear ha
    go_wp2
    go_ret
    exact ⟨by rw [N.out]; rfl, by rw [N.out]; exact HH.out.on B1.out, apt_below b B1.out⟩
  · have D0 := Lib.hid (DInv2.begin hk ha hp)
    have nk : ((k : Int) == -1) = false := by simp
    clear ha hp
    go_wp2_with fail
    go_loopw [5, 6, 7] (fun iv jv _ wr => ∃ (i j : Nat) (d : List (Int × Int)), iv = .int .i64 i ∧ jv = .int .i64 j ∧ DInv2 l p j i d ∧ Hol2 wr b off d ∧ Apt b w wr) (fun _ jv _ _ => l.length - (intOf jv).toNat)
    case atStart => exact ⟨k, k + 1, l, rfl, by go_num, D0.out, HH.out.on B1.out, apt_below b B1.out⟩
    case round =>
      obtain ⟨i, j, d, rfl, rfl, hD, hh, hB⟩ := hrel
      have ij := hD.2.1
      have jl := hD.2.2.1
      have dl := hD.1
      have HD := Lib.hid hD
      have HHd := Lib.hid hh
      have HB := Lib.hid hB
      have bw := hh.lt (by omega)
      clear hD hh hB D0 B1
      by_cases hlt : j < l.length
      · obtain ⟨⟨k1, k2⟩, _, _⟩ := HHd.out j (by omega)
        rw [HD.out.2.2.2.2 j (Nat.le_refl _)] at k1 k2
        obtain ⟨X, hX⟩ : ∃ X, X = l.getD j (0, 0) := ⟨_, rfl⟩
        rw [← hX] at k1 k2
        have HX := Lib.hid hX
        have T3 := Two.new wr X.1 X.2 54
        have b3 : Below wr.heap.size wr (wr.alloc (.cells #[.int .i64 X.1, .int .i64 X.2] 54)) := (Below.refl _ _).alloc (Nat.le_refl _) _
        obtain ⟨W3, hW3⟩ : ∃ W3, W3 = wr.alloc (.cells #[.int .i64 X.1, .int .i64 X.2] 54) := ⟨_, rfl⟩
        rw [← hW3] at T3 b3
        have HW3 := Lib.hid hW3
        have HT3 := Lib.hid T3
        have B3 := Lib.hid b3
        have K := Lib.hid (HC.out X W3 (HB.out.trans (apt_below b b3)))
        clear hX hW3 T3 b3
        go_upto_region 8 with fail
        rw [← HW3.out]
        clear HW3 k1 k2
        have t0 := HT3.out.1
        have t1 := HT3.out.2
        have tl := HT3.out.lt
        go_wp2_with fail
        clear t0 t1 tl
        refine K.out.mono ?_
        rintro e w4 ⟨rfl, hb⟩
        have B4 := Lib.hid (B3.out.trans (hb.mono B3.out.size))
        have t0 := (HT3.out.on hb).1
        have t1 := (HT3.out.on hb).2
        have tl := (HT3.out.on hb).lt
        clear hb K B3 HT3
        have H4 := Lib.hid (HHd.out.on B4.out)
        have A4 := Lib.hid (HB.out.trans (apt_below b B4.out))
        rcases hp : p X with _ | _
        · have N1 := Lib.hid (HD.out.keep hlt (by rw [← HX.out]; exact hp))
          rw [← HX.out] at N1
          have SH := Lib.hid (H4.out.store (i := i) (by omega) X)
          have SA := Lib.hid (A4.out.trans (apt_cells b [.int .i64 X.1, .int .i64 X.2] (off + i * 2) w4))
          have TH := Lib.hid (H4.out.there (i := i) (by omega))
          go_wp2_with (refine ch_store ?s1 (.tmp 33) (.tmp 32) ?s2 ?s9 b (off + i * 2) X ?s3 ?s4 TH.out ?s5; (case s1 => rfl); (case s2 => rfl); (case s9 => rfl); (case s3 => rfl); (case s4 => rfl))
          go_roundw
          case rel => exact ⟨i + 1, j + 1, d.set i X, by go_num, by go_num, N1.out, SH.out, SA.out⟩
          case measure => simp [intOf]; omega
        · have N1 := Lib.hid (HD.out.skip hlt (by rw [← HX.out]; exact hp))
          go_wp2
          go_roundw
          case rel => exact ⟨i, j + 1, d, rfl, by go_num, N1.out, H4.out, A4.out⟩
          case measure => simp [intOf]; omega
      · obtain rfl : j = l.length := by omega
        have hcl : ∀ ty, (Builtin.clear_ #[26] ty #[.slice (some ⟨b, off + i * 2, none⟩) (l.length - i) (cap - i)]).run Tryz.prog wr = .ok (.tuple #[]) (wr.setCells b (off + i * 2) (List.replicate ((l.length - i) * 2) (.int .i64 0))) :=
          fun ty => run_clear2 wr ty b (off + i * 2) _ _ (by omega) (fun t ht => (HHd.out.cellsAt i t (by omega)).1) (fun t ht => (HHd.out.cellsAt i t (by omega)).2)
        have S := HHd.out.cut i (List.replicate ((l.length - i) * 2) (.int .i64 0))
        have N := HD.out.done
        have N2 : Hid ((l.filter (fun x => !p x)).length = i) := Lib.hid (by rw [← N, List.length_take]; omega)
        rw [N] at S
        have SH := Lib.hid S
        have SA := Lib.hid (HB.out.trans (apt_cells b (List.replicate ((l.length - i) * 2) (.int .i64 0)) (off + i * 2) wr))
        clear S N
        go_wp2
        go_ret
        exact ⟨by rw [N2.out]; rfl, SH.out, SA.out⟩
end Go.Proofs.YtnnpnalfkcngmaeGreatDoor
