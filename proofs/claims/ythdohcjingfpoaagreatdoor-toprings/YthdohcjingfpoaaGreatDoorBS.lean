/-
  What is proved here: rows of changes that may be written; what stays as it was beside one block.
  What is proved here: what slices.IndexFunc and slices.DeleteFunc answer at changes and the closures of event.movedInto (contracts over the translation).
-/
import Derived.Test.YthdohcjingfpoaaGreatDoorEvMov
import Derived.Test.YthdohcjingfpoaaGreatDoorBF
namespace Go.Proofs.YthdohcjingfpoaaGreatDoor
open Go.RowKit Cal Txt

/-- All blocks but one are as they were. -/
structure Apt (b : Nat) (w W : World) : Prop where
  os : W.os = w.os
  tape : W.tape = w.tape
  output : W.output = w.output
  size : w.heap.size ≤ W.heap.size
  block : ∀ k, k < w.heap.size → k ≠ b → W.heap[k]? = w.heap[k]?
theorem Apt.refl (b : Nat) (w : World) : Apt b w w := ⟨rfl, rfl, rfl, Nat.le_refl _, fun _ _ _ => rfl⟩
theorem Apt.trans {b : Nat} {w W V : World} (h : Apt b w W) (k : Apt b W V) : Apt b w V :=
  ⟨k.os.trans h.os, k.tape.trans h.tape, k.output.trans h.output, Nat.le_trans h.size k.size, fun i hi hn => (k.block i (Nat.lt_of_lt_of_le hi h.size) hn).trans (h.block i hi hn)⟩
theorem apt_below {w W : World} (b : Nat) (q : Below w.heap.size w W) : Apt b w W := ⟨q.os, q.tape, q.output, q.size, fun k hk _ => q.block k hk⟩
theorem Apt.below {b n0 : Nat} {w W : World} (h : Apt b w W) (hb : n0 ≤ b) (hn : n0 ≤ w.heap.size) : Below n0 w W := ⟨h.os, h.tape, h.output, h.size, fun k hk => h.block k (by omega) (by omega)⟩
theorem Apt.cell {b : Nat} {w W : World} (h : Apt b w W) {p : Addr} (hp : p.block < w.heap.size) (hn : p.block ≠ b) : W.cell? p = w.cell? p := by simp [World.cell?, h.block p.block hp hn]
theorem apt_set (b o : Nat) (v : Value) (w : World) : Apt b w (w.setCell ⟨b, o, none⟩ v) :=
  ⟨rfl, rfl, rfl, by simp, fun k _ hn => Below.heap_setCell w ⟨b, o, none⟩ v k hn⟩
theorem apt_cells (b : Nat) : ∀ (vs : List Value) (o : Nat) (w : World), Apt b w (w.setCells b o vs)
  | [], _, w => Apt.refl b w
  | v :: r, o, w => (apt_set b o v w).trans (apt_cells b r (o + 1) _)
/-- Cells hold changes, and may be written. -/
def Hol2 (w : World) (b off : Nat) (l : List (Int × Int)) : Prop := ∀ j, j < l.length → (w.cell? ⟨b, off + j * 2, none⟩ = some (.int .i64 (l.getD j (0, 0)).1) ∧ w.cell? ⟨b, off + j * 2 + 1, none⟩ = some (.int .i64 (l.getD j (0, 0)).2)) ∧ w.frozen? ⟨b, off + j * 2, none⟩ = false ∧ w.frozen? ⟨b, off + j * 2 + 1, none⟩ = false
theorem Hol2.lt {w : World} {b off : Nat} {l : List (Int × Int)} (h : Hol2 w b off l) (h0 : 0 < l.length) : b < w.heap.size := ecell_in (h 0 h0).1.1
theorem Hol2.on {w W : World} {b off : Nat} {l : List (Int × Int)} (h : Hol2 w b off l) (q : Below w.heap.size w W) : Hol2 W b off l := fun j hj => by
  obtain ⟨⟨c1, c2⟩, f1, f2⟩ := h j hj
  have hb : b < w.heap.size := ecell_in c1
  obtain ⟨c, f⟩ := bcell q
  exact ⟨⟨(c _ _ hb).trans c1, (c _ _ hb).trans c2⟩, (f _ _ hb).trans f1, (f _ _ hb).trans f2⟩
theorem Hol2.nths {w : World} {b off cap : Nat} {l : List (Int × Int)} (h : Hol2 w b off l) : Nths w (.slice (some ⟨b, off, none⟩) l.length cap) l := ⟨_, _, rfl, Or.inr ⟨b, off, rfl, fun i hi => (h i hi).1⟩⟩
theorem Hol2.take {w : World} {b off : Nat} {l : List (Int × Int)} (h : Hol2 w b off l) (i : Nat) : Hol2 w b off (l.take i) := fun j hj => by
  rw [List.length_take] at hj
  have := h j (by omega)
  rwa [List.getD_eq_getElem?_getD, List.getElem?_take, if_pos (by omega), ← List.getD_eq_getElem?_getD]
theorem Hol2.there {w : World} {b off : Nat} {l : List (Int × Int)} (h : Hol2 w b off l) {i : Nat} (hi : i < l.length) : w.there b (off + i * 2) 2 := fun j hj => by
  obtain ⟨⟨c1, c2⟩, f1, f2⟩ := h i hi
  rcases (by omega : j = 0 ∨ j = 1) with rfl | rfl
  · exact ⟨by rw [Nat.add_zero, c1]; rfl, by rw [Nat.add_zero]; exact f1⟩
  · exact ⟨by rw [c2]; rfl, f2⟩
theorem Hol2.store {w : World} {b off : Nat} {l : List (Int × Int)} (h : Hol2 w b off l) {i : Nat} (hi : i < l.length) (x : Int × Int) : Hol2 (w.setCells b (off + i * 2) [.int .i64 x.1, .int .i64 x.2]) b off (l.set i x) := fun j hj => by
  rw [List.length_set] at hj
  have hr := World.rangeAt_setCells_same w b (off + i * 2) [.int .i64 x.1, .int .i64 x.2] (h.there hi)
  rw [World.frozen?_setCells, World.frozen?_setCells]
  refine ⟨?_, (h j hj).2⟩
  by_cases e : j = i
  · subst e
    have e2 : (l.set j x).getD j (0, 0) = x := by rw [List.getD_eq_getElem?_getD, List.getElem?_set_self hj]; rfl
    rw [e2]
    exact ⟨hr 0 _ rfl, hr 1 _ rfl⟩
  · have e2 : (l.set i x).getD j (0, 0) = l.getD j (0, 0) := by rw [List.getD_eq_getElem?_getD, List.getElem?_set_ne (by omega), ← List.getD_eq_getElem?_getD]
    rw [e2, World.cell?_setCells_out _ _ _ _ _ (fun _ _ => by simp; omega), World.cell?_setCells_out _ _ _ _ _ (fun _ _ => by simp; omega)]
    exact (h j hj).1
theorem Hol2.cut {w : World} {b off : Nat} {l : List (Int × Int)} (h : Hol2 w b off l) (i : Nat) (vs : List Value) : Hol2 (w.setCells b (off + i * 2) vs) b off (l.take i) := fun j hj => by
  have hj2 := hj
  rw [List.length_take] at hj2
  rw [World.frozen?_setCells, World.frozen?_setCells, World.cell?_setCells_out _ _ _ _ _ (fun _ _ => Or.inl (by show off + j * 2 < off + i * 2; omega)), World.cell?_setCells_out _ _ _ _ _ (fun _ _ => Or.inl (by show off + j * 2 + 1 < off + i * 2; omega))]
  exact (h.take i) j hj
/-- clear, at changes. -/
theorem run_clear2 (w : World) (ty : TypeId) (b o n c : Nat) (hn : 0 < n) (hc : ∀ j, j < n * 2 → (w.cell? ⟨b, o + j, none⟩).isSome = true) (hf : ∀ j, j < n * 2 → w.frozen? ⟨b, o + j, none⟩ = false) :
    (Builtin.clear_ #[38] ty #[.slice (some ⟨b, o, none⟩) n c]).run Tryz.prog w = .ok (.tuple #[]) (w.setCells b o (List.replicate (n * 2) (.int .i64 0))) := by
  have hv : ∀ w, (zeroValue 135).run Tryz.prog w = .ok (.agg #[.int .i64 0, .int .i64 0]) w := fun _ => by kernel_rfl
  have hzc : (Builtin.zeroCells (Value.agg #[.int .i64 0, .int .i64 0]).cells n).toList = List.replicate (n * 2) (.int .i64 0) := by
    show (Builtin.zeroCells #[.int .i64 0, .int .i64 0] n).toList = _
    simp only [Builtin.zeroCells, Array.toList_map]
    apply List.ext_getElem
    · simp
    · intro i h1 h2
      simp
      rcases (by omega : i % 2 = 0 ∨ i % 2 = 1) with q | q <;> simp [q]
  have hst := run_storeCells_cells (P := Tryz.prog) b o (List.replicate (n * 2) (.int .i64 0)) 0 w (by simpa using hc) (by simpa using hf) (by intro v hv'; rw [List.eq_of_mem_replicate hv']; rfl)
  simp only [Nat.add_zero] at hst
  obtain ⟨m, rfl⟩ : ∃ m, n = m + 1 := ⟨n - 1, by omega⟩
  simp [Builtin.clear_, run_underlying Tryz.underlying38, hv, hzc, hst]
theorem Hol2.cellsAt {w : World} {b off : Nat} {l : List (Int × Int)} (h : Hol2 w b off l) (i : Nat) (j : Nat) (hj : j < (l.length - i) * 2) : (w.cell? ⟨b, off + i * 2 + j, none⟩).isSome = true ∧ w.frozen? ⟨b, off + i * 2 + j, none⟩ = false := by
  obtain ⟨⟨c1, c2⟩, f1, f2⟩ := h (i + j / 2) (by omega)
  rcases (by omega : j % 2 = 0 ∨ j % 2 = 1) with q | q
  · rw [show off + i * 2 + j = off + (i + j / 2) * 2 by omega]
    exact ⟨by rw [c1]; rfl, f1⟩
  · rw [show off + i * 2 + j = off + (i + j / 2) * 2 + 1 by omega]
    exact ⟨by rw [c2]; rfl, f2⟩
/-- How far the deleting has come. -/
def DInv2 (l : List (Int × Int)) (p : Int × Int → Bool) (j i : Nat) (d : List (Int × Int)) : Prop :=
  d.length = l.length ∧ i < j ∧ j ≤ l.length ∧ d.take i = (l.take j).filter (fun x => !p x) ∧ ∀ t, j ≤ t → d.getD t (0, 0) = l.getD t (0, 0)
theorem DInv2.begin {l : List (Int × Int)} {p : Int × Int → Bool} {k : Nat} (hk : k < l.length) (ha : (l.take k).any p = false) (hp : p (l.getD k (0, 0)) = true) : DInv2 l p (k + 1) k l := by
  refine ⟨rfl, by omega, by omega, ?_, fun t _ => rfl⟩
  rw [List.take_succ_eq_append_getElem hk, List.filter_append]
  rw [List.getD_eq_getElem?_getD, List.getElem?_eq_getElem hk] at hp
  have hp' : p l[k] = true := hp
  rw [List.filter_eq_self.2 (fun x hx => by have := List.any_eq_false.1 ha x hx; simpa using this)]
  simp [hp']
theorem DInv2.skip {l : List (Int × Int)} {p : Int × Int → Bool} {j i : Nat} {d : List (Int × Int)} (h : DInv2 l p j i d) (hj : j < l.length) (hp : p (l.getD j (0, 0)) = true) : DInv2 l p (j + 1) i d := by
  obtain ⟨a, b, c, e, f⟩ := h
  refine ⟨a, by omega, by omega, ?_, fun t ht => f t (by omega)⟩
  rw [List.getD_eq_getElem?_getD, List.getElem?_eq_getElem hj] at hp
  have hp' : p l[j] = true := hp
  rw [List.take_succ_eq_append_getElem hj, List.filter_append, ← e]
  simp [hp']
theorem DInv2.keep {l : List (Int × Int)} {p : Int × Int → Bool} {j i : Nat} {d : List (Int × Int)} (h : DInv2 l p j i d) (hj : j < l.length) (hp : p (l.getD j (0, 0)) = false) : DInv2 l p (j + 1) (i + 1) (d.set i (l.getD j (0, 0))) := by
  obtain ⟨a, b, c, e, f⟩ := h
  refine ⟨by simpa using a, by omega, by omega, ?_, fun t ht => ?_⟩
  · rw [List.take_succ_eq_append_getElem (l := l) hj, List.filter_append, ← e]
    rw [List.getD_eq_getElem?_getD, List.getElem?_eq_getElem hj] at hp ⊢
    have hp' : p l[j] = false := hp
    rw [List.take_succ_eq_append_getElem (by rw [List.length_set]; omega), List.take_set_of_le (Nat.le_refl _)]
    simp [hp']
  · rw [List.getD_eq_getElem?_getD, List.getElem?_set_ne (by omega), ← List.getD_eq_getElem?_getD]
    exact f t (by omega)
theorem DInv2.done {l : List (Int × Int)} {p : Int × Int → Bool} {i : Nat} {d : List (Int × Int)} (h : DInv2 l p l.length i d) : d.take i = l.filter (fun x => !p x) := by
  have := h.2.2.2.1
  rwa [List.take_length] at this
theorem any_tk2 (p : Int × Int → Bool) (l : List (Int × Int)) (k : Nat) (h : k < l.length) (ha : (l.take k).any p = false) (hp : p (l.getD k (0, 0)) = false) : (l.take (k + 1)).any p = false := by
  rw [List.take_succ_eq_append_getElem h, List.any_append, ha, List.any_cons, List.any_nil]
  rw [List.getD_eq_getElem?_getD, List.getElem?_eq_getElem h] at hp
  simpa using hp
end Go.Proofs.YthdohcjingfpoaaGreatDoor
namespace Go.Proofs.YthdohcjingfpoaaGreatDoor
open Go.RowKit Cal Txt

/-- A change is stored into a row. -/
theorem ch_store {ops : Array Oper} {rest : List Oper} {op : Oper} {a : Act} {W : World} {Q : Exit → Act → World → Prop} (hgd : op.guard = none) (x y : Operand) (ho : op.op = .store 135 x y) (hd : op.dst = none)
    (b o : Nat) (c : Int × Int) (hx : a.eval x = .pointer (some ⟨b, o, none⟩)) (hy : a.eval y = .agg #[.int .i64 c.1, .int .i64 c.2]) (ht : W.there b o 2)
    (h : wpList Tryz.prog ops Q rest a (W.setCells b o [.int .i64 c.1, .int .i64 c.2])) : wpList Tryz.prog ops Q (op :: rest) a W := by
  refine wpList_store_mid hgd 135 x y ho b o #[.int .i64 c.1, .int .i64 c.2] hx hy ht (by kernel_rfl) (by simp [Value.oneCell']) ?_
  rw [hd]
  exact h
/-- How the closure answers, whatever is beside one block. -/
def ClA (b : Nat) (w : World) (c1 c2 : Value) (p : Int × Int → Bool) : Prop :=
  ∀ (c : Int × Int) (W : World), Apt b w W → Calls Tryz.prog 209 #[.agg #[.int .i64 c.1, .int .i64 c.2], c1, c2] W fun e w' => e = .returned (.bool (p c)) ∧ Below W.heap.size W w'
set_option maxRecDepth 100000 in
set_option maxHeartbeats 1000000 in
theorem idxA (c1 c2 : Value) (p : Int × Int → Bool) (l : List (Int × Int)) (b off cap : Nat) (w : World) (hC : ClA b w c1 c2 p) (hh : Hol2 w b off l) (hl : l.length ≤ 1000000) :
    Calls Tryz.prog 234 #[.slice (some ⟨b, off, none⟩) l.length cap, .func (.func 209) #[] #[c1, c2]] w fun e w' => Below w.heap.size w w' ∧
      ((e = .returned (.int .i64 (-1)) ∧ l.any p = false) ∨ ∃ k : Nat, e = .returned (.int .i64 k) ∧ k < l.length ∧ (l.take k).any p = false ∧ p (l.getD k (0, 0)) = true) := by
  have HH := Lib.hid hh
  have HC := Lib.hid hC
  clear hh hC
  have eg : ∀ args w, (callFunc 209 args).run Tryz.prog w = .ok (.enter 209 args) w := enters_of Tryz.func209 (by kernel_rfl) rfl
  go_enter Tryz.func234, Tryz.ntmps234
  go_wp2
  go_loopw [8] (fun i wr => ∃ k : Nat, k ≤ l.length ∧ i = .int .i64 k ∧ (l.take k).any p = false ∧ Below w.heap.size w wr) (fun i _ => l.length - (intOf i).toNat)
  case atStart => exact ⟨0, Nat.zero_le _, rfl, rfl, Below.refl _ _⟩
  case round =>
    obtain ⟨k, hk, rfl, hF, hB⟩ := hrel
    have HF := Lib.hid hF
    have HB := Lib.hid hB
    clear hF
    by_cases hlt : k < l.length
    · obtain ⟨⟨k1, k2⟩, _, _⟩ := (HH.out.on hB) k hlt
      have bl := ecell_in k1
      have K := Lib.hid (HC.out (l.getD k (0, 0)) wr (apt_below b hB))
      obtain ⟨X, hX⟩ : ∃ X, X = l.getD k (0, 0) := ⟨_, rfl⟩
      rw [← hX] at k1 k2 K
      have HX := Lib.hid hX
      clear hX hB
      go_wp2_with fail
      refine K.out.mono ?_
      rintro e w2 ⟨rfl, hb⟩
      have HB2 := Lib.hid (HB.out.trans (hb.mono HB.out.size))
      clear hb K k1 k2 bl
      rcases hp : p X with _ | _
      · have N1 := Lib.hid (any_tk2 p l k hlt HF.out (by rw [← HX.out]; exact hp))
        go_wp2
        go_roundw
        case rel => exact ⟨k + 1, by omega, by go_num, N1.out, HB2.out⟩
        case measure => simp [intOf]; omega
      · have N1 : Hid (p (l.getD k (0, 0)) = true) := Lib.hid (by rw [← HX.out]; exact hp)
        go_wp2
        go_ret
        exact ⟨HB2.out, Or.inr ⟨k, rfl, hlt, HF.out, N1.out⟩⟩
    · have N1 : Hid (l.any p = false) := Lib.hid (by have := HF.out; rwa [List.take_of_length_le (by omega)] at this)
      go_wp2
      go_ret
      exact ⟨HB.out, Or.inl ⟨rfl, N1.out⟩⟩
set_option maxRecDepth 100000 in
set_option maxHeartbeats 4000000 in
theorem delA (c1 c2 : Value) (p : Int × Int → Bool) (l : List (Int × Int)) (b off cap : Nat) (w : World) (hC : ClA b w c1 c2 p) (hh : Hol2 w b off l) (h0 : 0 < l.length) (hcap : l.length ≤ cap) (hl : l.length ≤ 1000000) :
    Calls Tryz.prog 210 #[.slice (some ⟨b, off, none⟩) l.length cap, .func (.func 209) #[] #[c1, c2]] w fun e w' => e = .returned (.slice (some ⟨b, off, none⟩) (l.filter (fun x => !p x)).length cap) ∧ Hol2 w' b off (l.filter (fun x => !p x)) ∧ Apt b w w' := by
  have K := Lib.hid (idxA c1 c2 p l b off cap w hC hh hl)
  have HH := Lib.hid hh
  have HC := Lib.hid hC
  clear hh hC
  have eg : ∀ args w, (callFunc 209 args).run Tryz.prog w = .ok (.enter 209 args) w := enters_of Tryz.func209 (by kernel_rfl) rfl
  go_enter Tryz.func210, Tryz.ntmps210
  go_wp2_with fail
  refine K.out.mono ?_
  rintro e w1 ⟨hb1, hx⟩
  have B1 := Lib.hid hb1
  clear K hb1
  rcases hx with ⟨rfl, ha⟩ | ⟨k, rfl, hk, ha, hp⟩
  · have N : Hid (l.filter (fun x => !p x) = l) := Lib.hid (List.filter_eq_self.2 (fun x hx => by have := List.any_eq_false.1 ha x hx; simpa using this))
    clear ha
    go_wp2
    go_ret
    exact ⟨by rw [N.out]; rfl, by rw [N.out]; exact HH.out.on B1.out, apt_below b B1.out⟩
  · have D0 := Lib.hid (DInv2.begin hk ha hp)
    have nk : ((k : Int) == -1) = false := by simp
    clear ha hp
    go_wp2_with fail
    go_loopw [5, 6, 7] (fun iv jv _ wr => ∃ (i j : Nat) (d : List (Int × Int)), iv = .int .i64 i ∧ jv = .int .i64 j ∧ DInv2 l p j i d ∧ Hol2 wr b off d ∧ Apt b w wr) (fun _ jv _ _ => l.length - (intOf jv).toNat)
    case atStart => exact ⟨k, k + 1, l, rfl, by go_num, D0.out, HH.out.on B1.out, apt_below b B1.out⟩
    case round =>
      obtain ⟨i, j, d, rfl, rfl, hD, hh, hB⟩ := hrel
      have ij := hD.2.1
      have jl := hD.2.2.1
      have dl := hD.1
      have HD := Lib.hid hD
      have HHd := Lib.hid hh
      have HB := Lib.hid hB
      have bw := hh.lt (by omega)
      clear hD hh hB D0 B1
      by_cases hlt : j < l.length
      · obtain ⟨⟨k1, k2⟩, _, _⟩ := HHd.out j (by omega)
        rw [HD.out.2.2.2.2 j (Nat.le_refl _)] at k1 k2
        obtain ⟨X, hX⟩ : ∃ X, X = l.getD j (0, 0) := ⟨_, rfl⟩
        rw [← hX] at k1 k2
        have HX := Lib.hid hX
        have T3 := Two.new wr X.1 X.2 135
        have b3 : Below wr.heap.size wr (wr.alloc (.cells #[.int .i64 X.1, .int .i64 X.2] 135)) := (Below.refl _ _).alloc (Nat.le_refl _) _
        obtain ⟨W3, hW3⟩ : ∃ W3, W3 = wr.alloc (.cells #[.int .i64 X.1, .int .i64 X.2] 135) := ⟨_, rfl⟩
        rw [← hW3] at T3 b3
        have HW3 := Lib.hid hW3
        have HT3 := Lib.hid T3
        have B3 := Lib.hid b3
        have K := Lib.hid (HC.out X W3 (HB.out.trans (apt_below b b3)))
        clear hX hW3 T3 b3
        go_upto_region 8 with fail
        rw [← HW3.out]
        clear HW3 k1 k2
        have t0 := HT3.out.1
        have t1 := HT3.out.2
        have tl := HT3.out.lt
        go_wp2_with fail
        clear t0 t1 tl
        refine K.out.mono ?_
        rintro e w4 ⟨rfl, hb⟩
        have B4 := Lib.hid (B3.out.trans (hb.mono B3.out.size))
        have t0 := (HT3.out.on hb).1
        have t1 := (HT3.out.on hb).2
        have tl := (HT3.out.on hb).lt
        clear hb K B3 HT3
        have H4 := Lib.hid (HHd.out.on B4.out)
        have A4 := Lib.hid (HB.out.trans (apt_below b B4.out))
        rcases hp : p X with _ | _
        · have N1 := Lib.hid (HD.out.keep hlt (by rw [← HX.out]; exact hp))
          rw [← HX.out] at N1
          have SH := Lib.hid (H4.out.store (i := i) (by omega) X)
          have SA := Lib.hid (A4.out.trans (apt_cells b [.int .i64 X.1, .int .i64 X.2] (off + i * 2) w4))
          have TH := Lib.hid (H4.out.there (i := i) (by omega))
          go_wp2_with (refine ch_store ?s1 (.tmp 33) (.tmp 32) ?s2 ?s9 b (off + i * 2) X ?s3 ?s4 TH.out ?s5; (case s1 => rfl); (case s2 => rfl); (case s9 => rfl); (case s3 => rfl); (case s4 => rfl))
          go_roundw
          case rel => exact ⟨i + 1, j + 1, d.set i X, by go_num, by go_num, N1.out, SH.out, SA.out⟩
          case measure => simp [intOf]; omega
        · have N1 := Lib.hid (HD.out.skip hlt (by rw [← HX.out]; exact hp))
          go_wp2
          go_roundw
          case rel => exact ⟨i, j + 1, d, rfl, by go_num, N1.out, H4.out, A4.out⟩
          case measure => simp [intOf]; omega
      · obtain rfl : j = l.length := by omega
        have hcl : ∀ ty, (Builtin.clear_ #[38] ty #[.slice (some ⟨b, off + i * 2, none⟩) (l.length - i) (cap - i)]).run Tryz.prog wr = .ok (.tuple #[]) (wr.setCells b (off + i * 2) (List.replicate ((l.length - i) * 2) (.int .i64 0))) :=
          fun ty => run_clear2 wr ty b (off + i * 2) _ _ (by omega) (fun t ht => (HHd.out.cellsAt i t (by omega)).1) (fun t ht => (HHd.out.cellsAt i t (by omega)).2)
        have S := HHd.out.cut i (List.replicate ((l.length - i) * 2) (.int .i64 0))
        have N := HD.out.done
        have N2 : Hid ((l.filter (fun x => !p x)).length = i) := Lib.hid (by rw [← N, List.length_take]; omega)
        rw [N] at S
        have SH := Lib.hid S
        have SA := Lib.hid (HB.out.trans (apt_cells b (List.replicate ((l.length - i) * 2) (.int .i64 0)) (off + i * 2) wr))
        clear S N
        go_wp2
        go_ret
        exact ⟨by rw [N2.out]; rfl, SH.out, SA.out⟩
/-- How the closure answers, whatever is beside one block. -/
def ClB (b : Nat) (w : World) (c1 : Value) (p : Int × Int → Bool) : Prop :=
  ∀ (c : Int × Int) (W : World), Apt b w W → Calls Tryz.prog 212 #[.agg #[.int .i64 c.1, .int .i64 c.2], c1] W fun e w' => e = .returned (.bool (p c)) ∧ Below W.heap.size W w'
set_option maxRecDepth 100000 in
set_option maxHeartbeats 1000000 in
theorem idxB (c1 : Value) (p : Int × Int → Bool) (l : List (Int × Int)) (b off cap : Nat) (w : World) (hC : ClB b w c1 p) (hh : Hol2 w b off l) (hl : l.length ≤ 1000000) :
    Calls Tryz.prog 234 #[.slice (some ⟨b, off, none⟩) l.length cap, .func (.func 212) #[] #[c1]] w fun e w' => Below w.heap.size w w' ∧
      ((e = .returned (.int .i64 (-1)) ∧ l.any p = false) ∨ ∃ k : Nat, e = .returned (.int .i64 k) ∧ k < l.length ∧ (l.take k).any p = false ∧ p (l.getD k (0, 0)) = true) := by
  have HH := Lib.hid hh
  have HC := Lib.hid hC
  clear hh hC
  have eg : ∀ args w, (callFunc 212 args).run Tryz.prog w = .ok (.enter 212 args) w := enters_of Tryz.func212 (by kernel_rfl) rfl
  go_enter Tryz.func234, Tryz.ntmps234
  go_wp2
  go_loopw [8] (fun i wr => ∃ k : Nat, k ≤ l.length ∧ i = .int .i64 k ∧ (l.take k).any p = false ∧ Below w.heap.size w wr) (fun i _ => l.length - (intOf i).toNat)
  case atStart => exact ⟨0, Nat.zero_le _, rfl, rfl, Below.refl _ _⟩
  case round =>
    obtain ⟨k, hk, rfl, hF, hB⟩ := hrel
    have HF := Lib.hid hF
    have HB := Lib.hid hB
    clear hF
    by_cases hlt : k < l.length
    · obtain ⟨⟨k1, k2⟩, _, _⟩ := (HH.out.on hB) k hlt
      have bl := ecell_in k1
      have K := Lib.hid (HC.out (l.getD k (0, 0)) wr (apt_below b hB))
      obtain ⟨X, hX⟩ : ∃ X, X = l.getD k (0, 0) := ⟨_, rfl⟩
      rw [← hX] at k1 k2 K
      have HX := Lib.hid hX
      clear hX hB
      go_wp2_with fail
      refine K.out.mono ?_
      rintro e w2 ⟨rfl, hb⟩
      have HB2 := Lib.hid (HB.out.trans (hb.mono HB.out.size))
      clear hb K k1 k2 bl
      rcases hp : p X with _ | _
      · have N1 := Lib.hid (any_tk2 p l k hlt HF.out (by rw [← HX.out]; exact hp))
        go_wp2
        go_roundw
        case rel => exact ⟨k + 1, by omega, by go_num, N1.out, HB2.out⟩
        case measure => simp [intOf]; omega
      · have N1 : Hid (p (l.getD k (0, 0)) = true) := Lib.hid (by rw [← HX.out]; exact hp)
        go_wp2
        go_ret
        exact ⟨HB2.out, Or.inr ⟨k, rfl, hlt, HF.out, N1.out⟩⟩
    · have N1 : Hid (l.any p = false) := Lib.hid (by have := HF.out; rwa [List.take_of_length_le (by omega)] at this)
      go_wp2
      go_ret
      exact ⟨HB.out, Or.inl ⟨rfl, N1.out⟩⟩
set_option maxRecDepth 100000 in
set_option maxHeartbeats 4000000 in
theorem delB (c1 : Value) (p : Int × Int → Bool) (l : List (Int × Int)) (b off cap : Nat) (w : World) (hC : ClB b w c1 p) (hh : Hol2 w b off l) (h0 : 0 < l.length) (hcap : l.length ≤ cap) (hl : l.length ≤ 1000000) :
    Calls Tryz.prog 210 #[.slice (some ⟨b, off, none⟩) l.length cap, .func (.func 212) #[] #[c1]] w fun e w' => e = .returned (.slice (some ⟨b, off, none⟩) (l.filter (fun x => !p x)).length cap) ∧ Hol2 w' b off (l.filter (fun x => !p x)) ∧ Apt b w w' := by
  have K := Lib.hid (idxB c1 p l b off cap w hC hh hl)
  have HH := Lib.hid hh
  have HC := Lib.hid hC
  clear hh hC
  have eg : ∀ args w, (callFunc 212 args).run Tryz.prog w = .ok (.enter 212 args) w := enters_of Tryz.func212 (by kernel_rfl) rfl
  go_enter Tryz.func210, Tryz.ntmps210
  go_wp2_with fail
  refine K.out.mono ?_
  rintro e w1 ⟨hb1, hx⟩
  have B1 := Lib.hid hb1
  clear K hb1
  rcases hx with ⟨rfl, ha⟩ | ⟨k, rfl, hk, ha, hp⟩
  · have N : Hid (l.filter (fun x => !p x) = l) := Lib.hid (List.filter_eq_self.2 (fun x hx => by have := List.any_eq_false.1 ha x hx; simpa using this))
    clear ha
    go_wp2
    go_ret
    exact ⟨by rw [N.out]; rfl, by rw [N.out]; exact HH.out.on B1.out, apt_below b B1.out⟩
  · have D0 := Lib.hid (DInv2.begin hk ha hp)
    have nk : ((k : Int) == -1) = false := by simp
    clear ha hp
    go_wp2_with fail
    go_loopw [5, 6, 7] (fun iv jv _ wr => ∃ (i j : Nat) (d : List (Int × Int)), iv = .int .i64 i ∧ jv = .int .i64 j ∧ DInv2 l p j i d ∧ Hol2 wr b off d ∧ Apt b w wr) (fun _ jv _ _ => l.length - (intOf jv).toNat)
    case atStart => exact ⟨k, k + 1, l, rfl, by go_num, D0.out, HH.out.on B1.out, apt_below b B1.out⟩
    case round =>
      obtain ⟨i, j, d, rfl, rfl, hD, hh, hB⟩ := hrel
      have ij := hD.2.1
      have jl := hD.2.2.1
      have dl := hD.1
      have HD := Lib.hid hD
      have HHd := Lib.hid hh
      have HB := Lib.hid hB
      have bw := hh.lt (by omega)
      clear hD hh hB D0 B1
      by_cases hlt : j < l.length
      · obtain ⟨⟨k1, k2⟩, _, _⟩ := HHd.out j (by omega)
        rw [HD.out.2.2.2.2 j (Nat.le_refl _)] at k1 k2
        obtain ⟨X, hX⟩ : ∃ X, X = l.getD j (0, 0) := ⟨_, rfl⟩
        rw [← hX] at k1 k2
        have HX := Lib.hid hX
        have T3 := Two.new wr X.1 X.2 135
        have b3 : Below wr.heap.size wr (wr.alloc (.cells #[.int .i64 X.1, .int .i64 X.2] 135)) := (Below.refl _ _).alloc (Nat.le_refl _) _
        obtain ⟨W3, hW3⟩ : ∃ W3, W3 = wr.alloc (.cells #[.int .i64 X.1, .int .i64 X.2] 135) := ⟨_, rfl⟩
        rw [← hW3] at T3 b3
        have HW3 := Lib.hid hW3
        have HT3 := Lib.hid T3
        have B3 := Lib.hid b3
        have K := Lib.hid (HC.out X W3 (HB.out.trans (apt_below b b3)))
        clear hX hW3 T3 b3
        go_upto_region 8 with fail
        rw [← HW3.out]
        clear HW3 k1 k2
        have t0 := HT3.out.1
        have t1 := HT3.out.2
        have tl := HT3.out.lt
        go_wp2_with fail
        clear t0 t1 tl
        refine K.out.mono ?_
        rintro e w4 ⟨rfl, hb⟩
        have B4 := Lib.hid (B3.out.trans (hb.mono B3.out.size))
        have t0 := (HT3.out.on hb).1
        have t1 := (HT3.out.on hb).2
        have tl := (HT3.out.on hb).lt
        clear hb K B3 HT3
        have H4 := Lib.hid (HHd.out.on B4.out)
        have A4 := Lib.hid (HB.out.trans (apt_below b B4.out))
        rcases hp : p X with _ | _
        · have N1 := Lib.hid (HD.out.keep hlt (by rw [← HX.out]; exact hp))
          rw [← HX.out] at N1
          have SH := Lib.hid (H4.out.store (i := i) (by omega) X)
          have SA := Lib.hid (A4.out.trans (apt_cells b [.int .i64 X.1, .int .i64 X.2] (off + i * 2) w4))
          have TH := Lib.hid (H4.out.there (i := i) (by omega))
          go_wp2_with (refine ch_store ?s1 (.tmp 33) (.tmp 32) ?s2 ?s9 b (off + i * 2) X ?s3 ?s4 TH.out ?s5; (case s1 => rfl); (case s2 => rfl); (case s9 => rfl); (case s3 => rfl); (case s4 => rfl))
          go_roundw
          case rel => exact ⟨i + 1, j + 1, d.set i X, by go_num, by go_num, N1.out, SH.out, SA.out⟩
          case measure => simp [intOf]; omega
        · have N1 := Lib.hid (HD.out.skip hlt (by rw [← HX.out]; exact hp))
          go_wp2
          go_roundw
          case rel => exact ⟨i, j + 1, d, rfl, by go_num, N1.out, H4.out, A4.out⟩
          case measure => simp [intOf]; omega
      · obtain rfl : j = l.length := by omega
        have hcl : ∀ ty, (Builtin.clear_ #[38] ty #[.slice (some ⟨b, off + i * 2, none⟩) (l.length - i) (cap - i)]).run Tryz.prog wr = .ok (.tuple #[]) (wr.setCells b (off + i * 2) (List.replicate ((l.length - i) * 2) (.int .i64 0))) :=
          fun ty => run_clear2 wr ty b (off + i * 2) _ _ (by omega) (fun t ht => (HHd.out.cellsAt i t (by omega)).1) (fun t ht => (HHd.out.cellsAt i t (by omega)).2)
        have S := HHd.out.cut i (List.replicate ((l.length - i) * 2) (.int .i64 0))
        have N := HD.out.done
        have N2 : Hid ((l.filter (fun x => !p x)).length = i) := Lib.hid (by rw [← N, List.length_take]; omega)
        rw [N] at S
        have SH := Lib.hid S
        have SA := Lib.hid (HB.out.trans (apt_cells b (List.replicate ((l.length - i) * 2) (.int .i64 0)) (off + i * 2) wr))
        clear S N
        go_wp2
        go_ret
        exact ⟨by rw [N2.out]; rfl, SH.out, SA.out⟩
end Go.Proofs.YthdohcjingfpoaaGreatDoor
