/-
  What is proved here: rows of rings that may be written; how far deleting has come.
  What is proved here: what slices.IndexFunc and slices.DeleteFunc answer at rings and the closure of alarm.Rings (contracts over the translation).
-/
import Derived.Test.YtdiijpjfkgnjkafGreatDoorCD
namespace Go.Proofs.YtdiijpjfkgnjkafGreatDoor
open Go.RowKit Cal Txt

/-- Cells hold rings, and may be written. -/
def Hol5 (nm : ByteArray) (w : World) (b off : Nat) (l : List Rg) : Prop := ∀ j, j < l.length → w.rangeAt b (off + j * 5) (encR nm (l.getD j (0, 0, 0, 0))) ∧ ∀ c, c < 5 → w.frozen? ⟨b, off + j * 5 + c, none⟩ = false
theorem Hol5.cells {nm : ByteArray} {w : World} {b off : Nat} {l : List Rg} (h : Hol5 nm w b off l) {j : Nat} (hj : j < l.length) : w.cell? ⟨b, off + j * 5, none⟩ = some (.int .i64 (l.getD j (0, 0, 0, 0)).1) ∧ w.cell? ⟨b, off + j * 5 + 1, none⟩ = some (.string nm) ∧ w.cell? ⟨b, off + j * 5 + 2, none⟩ = some (.int .i64 (l.getD j (0, 0, 0, 0)).2.1) ∧ w.cell? ⟨b, off + j * 5 + 3, none⟩ = some (.int .i64 (l.getD j (0, 0, 0, 0)).2.2.1) ∧ w.cell? ⟨b, off + j * 5 + 4, none⟩ = some (.int .i64 (l.getD j (0, 0, 0, 0)).2.2.2) := by
  have r := (h j hj).1
  exact ⟨r 0 _ rfl, r 1 _ rfl, r 2 _ rfl, r 3 _ rfl, r 4 _ rfl⟩
theorem Hol5.lt {nm : ByteArray} {w : World} {b off : Nat} {l : List Rg} (h : Hol5 nm w b off l) (h0 : 0 < l.length) : b < w.heap.size := ecell_in (h.cells h0).1
theorem Hol5.on {nm : ByteArray} {w W : World} {b off : Nat} {l : List Rg} (h : Hol5 nm w b off l) (q : Below w.heap.size w W) : Hol5 nm W b off l := fun j hj => by
  have hb : b < w.heap.size := ecell_in (h.cells hj).1
  obtain ⟨c, f⟩ := bcell q
  exact ⟨fun i v hv => (c _ _ hb).trans ((h j hj).1 i v hv), fun i hi => (f _ _ hb).trans ((h j hj).2 i hi)⟩
theorem Hol5.take {nm : ByteArray} {w : World} {b off : Nat} {l : List Rg} (h : Hol5 nm w b off l) (i : Nat) : Hol5 nm w b off (l.take i) := fun j hj => by
  rw [List.length_take] at hj
  have := h j (by omega)
  rwa [List.getD_eq_getElem?_getD, List.getElem?_take, if_pos (by omega), ← List.getD_eq_getElem?_getD]
theorem Hol5.there {nm : ByteArray} {w : World} {b off : Nat} {l : List Rg} (h : Hol5 nm w b off l) {i : Nat} (hi : i < l.length) : w.there b (off + i * 5) 5 := fun j hj => by
  obtain ⟨r, f⟩ := h i hi
  have e : (encR nm (l.getD i (0, 0, 0, 0)))[j]? = some ((encR nm (l.getD i (0, 0, 0, 0)))[j]'hj) := List.getElem?_eq_getElem hj
  exact ⟨by rw [r j _ e]; rfl, f j hj⟩
theorem Hol5.store {nm : ByteArray} {w : World} {b off : Nat} {l : List Rg} (h : Hol5 nm w b off l) {i : Nat} (hi : i < l.length) (x : Rg) : Hol5 nm (w.setCells b (off + i * 5) (encR nm x)) b off (l.set i x) := fun j hj => by
  rw [List.length_set] at hj
  refine ⟨?_, fun c hc => by rw [World.frozen?_setCells]; exact (h j hj).2 c hc⟩
  by_cases e : j = i
  · subst e
    have e2 : (l.set j x).getD j (0, 0, 0, 0) = x := by rw [List.getD_eq_getElem?_getD, List.getElem?_set_self hj]; rfl
    rw [e2]
    exact World.rangeAt_setCells_same w b (off + j * 5) (encR nm x) (h.there hi)
  · have e2 : (l.set i x).getD j (0, 0, 0, 0) = l.getD j (0, 0, 0, 0) := by rw [List.getD_eq_getElem?_getD, List.getElem?_set_ne (by omega), ← List.getD_eq_getElem?_getD]
    rw [e2]
    intro c v hv
    have hc : c < 5 := (List.getElem?_eq_some_iff.1 hv).1
    rw [World.cell?_setCells_out _ _ _ _ _ (fun _ _ => by show off + j * 5 + c < off + i * 5 ∨ off + i * 5 + 5 ≤ off + j * 5 + c; omega)]
    exact (h j hj).1 c v hv
theorem Hol5.cut {nm : ByteArray} {w : World} {b off : Nat} {l : List Rg} (h : Hol5 nm w b off l) (i : Nat) (vs : List Value) : Hol5 nm (w.setCells b (off + i * 5) vs) b off (l.take i) := fun j hj => by
  have hj2 := hj
  rw [List.length_take] at hj2
  obtain ⟨r, f⟩ := (h.take i) j hj
  refine ⟨fun c v hv => ?_, fun c hc => by rw [World.frozen?_setCells]; exact f c hc⟩
  have hc : c < 5 := (List.getElem?_eq_some_iff.1 hv).1
  rw [World.cell?_setCells_out _ _ _ _ _ (fun _ _ => Or.inl (by show off + j * 5 + c < off + i * 5; omega))]
  exact r c v hv
theorem Hol5.cellsAt {nm : ByteArray} {w : World} {b off : Nat} {l : List Rg} (h : Hol5 nm w b off l) (i : Nat) (j : Nat) (hj : j < (l.length - i) * 5) : (w.cell? ⟨b, off + i * 5 + j, none⟩).isSome = true ∧ w.frozen? ⟨b, off + i * 5 + j, none⟩ = false := by
  have q := h.there (i := i + j / 5) (by omega) (j % 5) (by omega)
  rwa [show off + (i + j / 5) * 5 + j % 5 = off + i * 5 + j by omega] at q
theorem Hol5.rowK {nm : ByteArray} {w : World} {b off cap : Nat} {l : List Rg} (h : Hol5 nm w b off l) : RowK (encR nm) w (.slice (some ⟨b, off, none⟩) l.length cap) l :=
  ⟨_, _, rfl, Or.inr ⟨b, off, rfl, fun j u hu => by
    have hl : j < l.length * 5 := by have := (List.getElem?_eq_some_iff.1 hu).1; rwa [flat_len (encR nm) 5 (fun _ => rfl)] at this
    have q := flat_at (encR nm) 5 (fun _ => rfl) l (j / 5) (j % 5) (by omega) (by omega)
    rw [show j / 5 * 5 + j % 5 = j by omega, hu] at q
    have := (h (j / 5) (by omega)).1 (j % 5) u q.symm
    rwa [show off + j / 5 * 5 + j % 5 = off + j by omega] at this⟩⟩
theorem own_hol5 {nm : ByteArray} {w : World} {n0 n : Nat} {v : Value} {l : List Rg} (h : w.ownsRow n0 41 5 v n (l.flatMap (encR nm))) : (v = .slice none 0 0 ∧ l = []) ∨ ∃ g cap, v = .slice (some ⟨g, 0, none⟩) l.length cap ∧ n0 ≤ g ∧ g < w.heap.size ∧ l.length ≤ cap ∧ Hol5 nm w g 0 l := by
  rcases (own_openK (encR nm) 5 (fun _ => rfl) (by decide) h).2 with q | ⟨g, cap, hv, h1, h2, h3, hh⟩
  · exact Or.inl q
  · refine Or.inr ⟨g, cap, hv, h1, h2, h3, fun j hj => ⟨fun c v' hv' => ?_, fun c hc => ?_⟩⟩
    · have hc : c < 5 := (List.getElem?_eq_some_iff.1 hv').1
      have q := (hh (j * 5 + c) (by simp; omega)).1
      rw [Sort.get_flatK _ _ _ _ (by simp; omega), show (j * 5 + c) / 5 = j by omega, show (j * 5 + c) % 5 = c by omega, getK l j hj] at q
      have e2 : (encR nm (l.getD j default))[c]! = v' := by
        have e3 : (encR nm (l.getD j (0, 0, 0, 0)))[c]? = some v' := hv'
        exact (List.getElem!_eq_getElem?_getD ..).trans (by rw [show (encR nm (l.getD j default))[c]? = some v' from e3]; rfl)
      rw [e2] at q
      rw [Nat.zero_add] at q ⊢
      exact q
    · have q := (hh (j * 5 + c) (by simp; omega)).2
      rw [Nat.zero_add] at q ⊢
      exact q
/-- clear, at rings. -/
def zr5 : List Value := [.int .i64 0, .string ⟨#[]⟩, .int .i64 0, .int .i64 0, .int .i64 0]
def zrs (n : Nat) : List Value := (List.range (n * 5)).map (fun i => zr5.getD (i % 5) undef)
theorem run_clear5 (w : World) (ty : TypeId) (b o n c : Nat) (hn : 0 < n) (hc : ∀ j, j < n * 5 → (w.cell? ⟨b, o + j, none⟩).isSome = true) (hf : ∀ j, j < n * 5 → w.frozen? ⟨b, o + j, none⟩ = false) :
    (Builtin.clear_ #[32] ty #[.slice (some ⟨b, o, none⟩) n c]).run Tryz.prog w = .ok (.tuple #[]) (w.setCells b o (zrs n)) := by
  have hv : ∀ w, (zeroValue 41).run Tryz.prog w = .ok (.agg zr5.toArray) w := fun _ => by kernel_rfl
  have hzc : (Builtin.zeroCells (Value.agg zr5.toArray).cells n).toList = zrs n := by
    show (Builtin.zeroCells zr5.toArray n).toList = _
    simp only [Builtin.zeroCells, Array.toList_map, zrs]
    apply List.ext_getElem
    · simp [zr5]
    · intro i h1 h2
      have : i % 5 < 5 := Nat.mod_lt _ (by decide)
      rcases (by omega : i % 5 = 0 ∨ i % 5 = 1 ∨ i % 5 = 2 ∨ i % 5 = 3 ∨ i % 5 = 4) with q | q | q | q | q <;> simp [q, zr5]
  have hone : ∀ v ∈ zrs n, v.oneCell' = true := fun v hv' => by
    unfold zrs at hv'
    obtain ⟨i, _, rfl⟩ := List.mem_map.1 hv'
    have : i % 5 < 5 := Nat.mod_lt _ (by decide)
    rcases (by omega : i % 5 = 0 ∨ i % 5 = 1 ∨ i % 5 = 2 ∨ i % 5 = 3 ∨ i % 5 = 4) with q | q | q | q | q <;> rw [q] <;> rfl
  have hst := run_storeCells_cells (P := Tryz.prog) b o (zrs n) 0 w (by simpa [zrs] using hc) (by simpa [zrs] using hf) hone
  simp only [Nat.add_zero] at hst
  obtain ⟨m, rfl⟩ : ∃ m, n = m + 1 := ⟨n - 1, by omega⟩
  simp [Builtin.clear_, run_underlying Tryz.underlying32, hv, hzc, hst]
/-- How far the deleting has come. -/
def DInv5 (l : List Rg) (p : Rg → Bool) (j i : Nat) (d : List Rg) : Prop :=
  d.length = l.length ∧ i < j ∧ j ≤ l.length ∧ d.take i = (l.take j).filter (fun x => !p x) ∧ ∀ t, j ≤ t → d.getD t (0, 0, 0, 0) = l.getD t (0, 0, 0, 0)
theorem DInv5.begin {l : List Rg} {p : Rg → Bool} {k : Nat} (hk : k < l.length) (ha : (l.take k).any p = false) (hp : p (l.getD k (0, 0, 0, 0)) = true) : DInv5 l p (k + 1) k l := by
  refine ⟨rfl, by omega, by omega, ?_, fun t _ => rfl⟩
  rw [List.take_succ_eq_append_getElem hk, List.filter_append]
  rw [List.getD_eq_getElem?_getD, List.getElem?_eq_getElem hk] at hp
  have hp' : p l[k] = true := hp
  rw [List.filter_eq_self.2 (fun x hx => by have := List.any_eq_false.1 ha x hx; simpa using this)]
  simp [hp']
theorem DInv5.skip {l : List Rg} {p : Rg → Bool} {j i : Nat} {d : List Rg} (h : DInv5 l p j i d) (hj : j < l.length) (hp : p (l.getD j (0, 0, 0, 0)) = true) : DInv5 l p (j + 1) i d := by
  obtain ⟨a, b, c, e, f⟩ := h
  refine ⟨a, by omega, by omega, ?_, fun t ht => f t (by omega)⟩
  rw [List.getD_eq_getElem?_getD, List.getElem?_eq_getElem hj] at hp
  have hp' : p l[j] = true := hp
  rw [List.take_succ_eq_append_getElem hj, List.filter_append, ← e]
  simp [hp']
theorem DInv5.keep {l : List Rg} {p : Rg → Bool} {j i : Nat} {d : List Rg} (h : DInv5 l p j i d) (hj : j < l.length) (hp : p (l.getD j (0, 0, 0, 0)) = false) : DInv5 l p (j + 1) (i + 1) (d.set i (l.getD j (0, 0, 0, 0))) := by
  obtain ⟨a, b, c, e, f⟩ := h
  refine ⟨by simpa using a, by omega, by omega, ?_, fun t ht => ?_⟩
  · rw [List.take_succ_eq_append_getElem (l := l) hj, List.filter_append, ← e]
    rw [List.getD_eq_getElem?_getD, List.getElem?_eq_getElem hj] at hp ⊢
    have hp' : p l[j] = false := hp
    rw [List.take_succ_eq_append_getElem (by rw [List.length_set]; omega), List.take_set_of_le (Nat.le_refl _)]
    simp [hp']
  · rw [List.getD_eq_getElem?_getD, List.getElem?_set_ne (by omega), ← List.getD_eq_getElem?_getD]
    exact f t (by omega)
theorem DInv5.done {l : List Rg} {p : Rg → Bool} {i : Nat} {d : List Rg} (h : DInv5 l p l.length i d) : d.take i = l.filter (fun x => !p x) := by
  have := h.2.2.2.1
  rwa [List.take_length] at this
theorem any_tk5 (p : Rg → Bool) (l : List Rg) (k : Nat) (h : k < l.length) (ha : (l.take k).any p = false) (hp : p (l.getD k (0, 0, 0, 0)) = false) : (l.take (k + 1)).any p = false := by
  rw [List.take_succ_eq_append_getElem h, List.any_append, ha, List.any_cons, List.any_nil]
  rw [List.getD_eq_getElem?_getD, List.getElem?_eq_getElem h] at hp
  simpa using hp
end Go.Proofs.YtdiijpjfkgnjkafGreatDoor
namespace Go.Proofs.YtdiijpjfkgnjkafGreatDoor
open Go.RowKit Cal Txt

/-- A ring in a block. -/
def RBx (nm : ByteArray) (W : World) (b : Nat) (x : Rg) : Prop := W.cell? ⟨b, 0, none⟩ = some (.int .i64 x.1) ∧ W.cell? ⟨b, 1, none⟩ = some (.string nm) ∧ W.cell? ⟨b, 2, none⟩ = some (.int .i64 x.2.1) ∧ W.cell? ⟨b, 3, none⟩ = some (.int .i64 x.2.2.1) ∧ W.cell? ⟨b, 4, none⟩ = some (.int .i64 x.2.2.2)
theorem RBx.on {nm : ByteArray} {W W' : World} {b : Nat} {x : Rg} (h : RBx nm W b x) (q : Below W.heap.size W W') : RBx nm W' b x := by
  have l := ecell_in h.1
  exact ⟨(q.cell (p := ⟨b, 0, none⟩) l).trans h.1, (q.cell (p := ⟨b, 1, none⟩) l).trans h.2.1, (q.cell (p := ⟨b, 2, none⟩) l).trans h.2.2.1, (q.cell (p := ⟨b, 3, none⟩) l).trans h.2.2.2.1, (q.cell (p := ⟨b, 4, none⟩) l).trans h.2.2.2.2⟩
theorem RBx.new (nm : ByteArray) (W : World) (x : Rg) (t : TypeId) : RBx nm (W.alloc (.cells #[.int .i64 x.1, .string nm, .int .i64 x.2.1, .int .i64 x.2.2.1, .int .i64 x.2.2.2] t)) W.heap.size x := by
  refine ⟨?_, ?_, ?_, ?_, ?_⟩ <;> simp
/-- A ring is stored into a row. -/
theorem rg_store (nm : ByteArray) {ops : Array Oper} {rest : List Oper} {op : Oper} {a : Act} {W : World} {Q : Exit → Act → World → Prop} (hgd : op.guard = none) (x y : Operand) (ho : op.op = .store 41 x y) (hd : op.dst = none)
    (b o : Nat) (c : Rg) (hx : a.eval x = .pointer (some ⟨b, o, none⟩)) (hy : a.eval y = .agg #[.int .i64 c.1, .string nm, .int .i64 c.2.1, .int .i64 c.2.2.1, .int .i64 c.2.2.2]) (ht : W.there b o 5)
    (h : wpList Tryz.prog ops Q rest a (W.setCells b o (encR nm c))) : wpList Tryz.prog ops Q (op :: rest) a W := by
  refine wpList_store_mid hgd 41 x y ho b o #[.int .i64 c.1, .string nm, .int .i64 c.2.1, .int .i64 c.2.2.1, .int .i64 c.2.2.2] hx hy ht (by kernel_rfl) (by simp [Value.oneCell']) ?_
  rw [hd]
  exact h
/-- How the closure answers, whatever is beside one block. -/
def ClR (nm : ByteArray) (b : Nat) (w : World) (c1 c2 : Value) (p : Rg → Bool) : Prop :=
  ∀ (c : Rg) (W : World), Apt b w W → Calls Tryz.prog 9 #[.agg #[.int .i64 c.1, .string nm, .int .i64 c.2.1, .int .i64 c.2.2.1, .int .i64 c.2.2.2], c1, c2] W fun e w' => e = .returned (.bool (p c)) ∧ Below W.heap.size W w'
set_option maxRecDepth 100000 in
set_option maxHeartbeats 1000000 in
theorem idxR (nm : ByteArray) (c1 c2 : Value) (p : Rg → Bool) (l : List Rg) (b off cap : Nat) (w : World) (hC : ClR nm b w c1 c2 p) (hh : Hol5 nm w b off l) (hl : l.length ≤ 1000000) :
    Calls Tryz.prog 24 #[.slice (some ⟨b, off, none⟩) l.length cap, .func (.func 9) #[] #[c1, c2]] w fun e w' => Below w.heap.size w w' ∧
      ((e = .returned (.int .i64 (-1)) ∧ l.any p = false) ∨ ∃ k : Nat, e = .returned (.int .i64 k) ∧ k < l.length ∧ (l.take k).any p = false ∧ p (l.getD k (0, 0, 0, 0)) = true) := by
  have HH := Lib.hid hh
  have HC := Lib.hid hC
  clear hh hC
  have eg : ∀ args w, (callFunc 9 args).run Tryz.prog w = .ok (.enter 9 args) w := enters_of Tryz.func9 (by kernel_rfl) rfl
  go_enter Tryz.func24, Tryz.ntmps24
  go_wp2
  go_loopw [8] (fun i wr => ∃ k : Nat, k ≤ l.length ∧ i = .int .i64 k ∧ (l.take k).any p = false ∧ Below w.heap.size w wr) (fun i _ => l.length - (intOf i).toNat)
  case atStart => exact ⟨0, Nat.zero_le _, rfl, rfl, Below.refl _ _⟩
  case round =>
    obtain ⟨k, hk, rfl, hF, hB⟩ := hrel
    have HF := Lib.hid hF
    have HB := Lib.hid hB
    clear hF
    by_cases hlt : k < l.length
    · obtain ⟨k1, k2, k3, k4, k5⟩ := (HH.out.on hB).cells hlt
      have bl := ecell_in k1
      have K := Lib.hid (HC.out (l.getD k (0, 0, 0, 0)) wr (apt_below b hB))
      obtain ⟨X, hX⟩ : ∃ X, X = l.getD k (0, 0, 0, 0) := ⟨_, rfl⟩
      rw [← hX] at k1 k3 k4 k5 K
      have HX := Lib.hid hX
      clear hX hB
      go_wp2_with fail
      refine K.out.mono ?_
      rintro e w2 ⟨rfl, hb⟩
      have HB2 := Lib.hid (HB.out.trans (hb.mono HB.out.size))
      clear hb K k1 k2 k3 k4 k5 bl
      rcases hp : p X with _ | _
      · have N1 := Lib.hid (any_tk5 p l k hlt HF.out (by rw [← HX.out]; exact hp))
        go_wp2
        go_roundw
        case rel => exact ⟨k + 1, by omega, by go_num, N1.out, HB2.out⟩
        case measure => simp [intOf]; omega
      · have N1 : Hid (p (l.getD k (0, 0, 0, 0)) = true) := Lib.hid (by rw [← HX.out]; exact hp)
        go_wp2
        go_ret
        exact ⟨HB2.out, Or.inr ⟨k, rfl, hlt, HF.out, N1.out⟩⟩
    · have N1 : Hid (l.any p = false) := Lib.hid (by have := HF.out; rwa [List.take_of_length_le (by omega)] at this)
      go_wp2
      go_ret
      exact ⟨HB.out, Or.inl ⟨rfl, N1.out⟩⟩
set_option maxRecDepth 100000 in
set_option maxHeartbeats 4000000 in
theorem delR (nm : ByteArray) (c1 c2 : Value) (p : Rg → Bool) (l : List Rg) (b off cap : Nat) (w : World) (hC : ClR nm b w c1 c2 p) (hh : Hol5 nm w b off l) (h0 : 0 < l.length) (hcap : l.length ≤ cap) (hl : l.length ≤ 1000000) :
    Calls Tryz.prog 10 #[.slice (some ⟨b, off, none⟩) l.length cap, .func (.func 9) #[] #[c1, c2]] w fun e w' => e = .returned (.slice (some ⟨b, off, none⟩) (l.filter (fun x => !p x)).length cap) ∧ Hol5 nm w' b off (l.filter (fun x => !p x)) ∧ Apt b w w' := by
  have K := Lib.hid (idxR nm c1 c2 p l b off cap w hC hh hl)
  have HH := Lib.hid hh
  have HC := Lib.hid hC
  clear hh hC
  have eg : ∀ args w, (callFunc 9 args).run Tryz.prog w = .ok (.enter 9 args) w := enters_of Tryz.func9 (by kernel_rfl) rfl
  go_enter Tryz.func10, Tryz.ntmps10
  go_wp2_with fail
  refine K.out.mono ?_
  rintro e w1 ⟨hb1, hx⟩
  have B1 := Lib.hid hb1
  clear K hb1
  rcases hx with ⟨rfl, ha⟩ | ⟨k, rfl, hk, ha, hp⟩
  · have N : Hid (l.filter (fun x => !p x) = l) := Lib.hid (List.filter_eq_self.2 (fun x hx => by have := List.any_eq_false.1 ha x hx; simpa using this))
    clear ha
    go_wp2
    go_ret
    exact ⟨by rw [N.out]; rfl, by rw [N.out]; exact HH.out.on B1.out, apt_below b B1.out⟩
  · have D0 := Lib.hid (DInv5.begin hk ha hp)
    have nk : ((k : Int) == -1) = false := by simp
    clear ha hp
    go_wp2_with fail
    go_loopw [5, 6, 7] (fun iv jv _ wr => ∃ (i j : Nat) (d : List Rg), iv = .int .i64 i ∧ jv = .int .i64 j ∧ DInv5 l p j i d ∧ Hol5 nm wr b off d ∧ Apt b w wr) (fun _ jv _ _ => l.length - (intOf jv).toNat)
    case atStart => exact ⟨k, k + 1, l, rfl, by go_num, D0.out, HH.out.on B1.out, apt_below b B1.out⟩
    case round =>
      obtain ⟨i, j, d, rfl, rfl, hD, hh, hB⟩ := hrel
      have ij := hD.2.1
      have jl := hD.2.2.1
      have dl := hD.1
      have HD := Lib.hid hD
      have HHd := Lib.hid hh
      have HB := Lib.hid hB
      have bw := hh.lt (by omega)
      clear hD hh hB D0 B1
      by_cases hlt : j < l.length
      · obtain ⟨k1, k2, k3, k4, k5⟩ := HHd.out.cells (j := j) (by omega)
        rw [HD.out.2.2.2.2 j (Nat.le_refl _)] at k1 k3 k4 k5
        obtain ⟨X, hX⟩ : ∃ X, X = l.getD j (0, 0, 0, 0) := ⟨_, rfl⟩
        rw [← hX] at k1 k3 k4 k5
        have HX := Lib.hid hX
        have T3 := RBx.new nm wr X 41
        have b3 : Below wr.heap.size wr (wr.alloc (.cells #[.int .i64 X.1, .string nm, .int .i64 X.2.1, .int .i64 X.2.2.1, .int .i64 X.2.2.2] 41)) := (Below.refl _ _).alloc (Nat.le_refl _) _
        obtain ⟨W3, hW3⟩ : ∃ W3, W3 = wr.alloc (.cells #[.int .i64 X.1, .string nm, .int .i64 X.2.1, .int .i64 X.2.2.1, .int .i64 X.2.2.2] 41) := ⟨_, rfl⟩
        rw [← hW3] at T3 b3
        have HW3 := Lib.hid hW3
        have HT3 := Lib.hid T3
        have B3 := Lib.hid b3
        have K := Lib.hid (HC.out X W3 (HB.out.trans (apt_below b b3)))
        clear hX hW3 T3 b3
        go_upto_region 8 with fail
        rw [← HW3.out]
        clear HW3 k1 k2 k3 k4 k5
        obtain ⟨t0, t1, t2, t3, t4⟩ := HT3.out
        have tl := ecell_in t0
        go_wp2_with fail
        clear t0 t1 t2 t3 t4 tl
        refine K.out.mono ?_
        rintro e w4 ⟨rfl, hb⟩
        have B4 := Lib.hid (B3.out.trans (hb.mono B3.out.size))
        obtain ⟨t0, t1, t2, t3, t4⟩ := HT3.out.on hb
        have tl := ecell_in t0
        clear hb K B3 HT3
        have H4 := Lib.hid (HHd.out.on B4.out)
        have A4 := Lib.hid (HB.out.trans (apt_below b B4.out))
        rcases hp : p X with _ | _
        · have N1 := Lib.hid (HD.out.keep hlt (by rw [← HX.out]; exact hp))
          rw [← HX.out] at N1
          have SH := Lib.hid (H4.out.store (i := i) (by omega) X)
          have SA := Lib.hid (A4.out.trans (apt_cells b (encR nm X) (off + i * 5) w4))
          have TH := Lib.hid (H4.out.there (i := i) (by omega))
          go_wp2_with (refine rg_store nm ?s1 (.tmp 33) (.tmp 32) ?s2 ?s9 b (off + i * 5) X ?s3 ?s4 ?s6 ?s5; (case s1 => rfl); (case s2 => rfl); (case s9 => rfl); (case s3 => rfl); (case s4 => rfl); (case s6 => exact TH.out))
          go_roundw
          case rel => exact ⟨i + 1, j + 1, d.set i X, by go_num, by go_num, N1.out, SH.out, SA.out⟩
          case measure => simp [intOf]; omega
        · have N1 := Lib.hid (HD.out.skip hlt (by rw [← HX.out]; exact hp))
          go_wp2
          go_roundw
          case rel => exact ⟨i, j + 1, d, rfl, by go_num, N1.out, H4.out, A4.out⟩
          case measure => simp [intOf]; omega
      · obtain rfl : j = l.length := by omega
        have hcl : ∀ ty, (Builtin.clear_ #[32] ty #[.slice (some ⟨b, off + i * 5, none⟩) (l.length - i) (cap - i)]).run Tryz.prog wr = .ok (.tuple #[]) (wr.setCells b (off + i * 5) (zrs (l.length - i))) :=
          fun ty => run_clear5 wr ty b (off + i * 5) _ _ (by omega) (fun t ht => (HHd.out.cellsAt i t (by omega)).1) (fun t ht => (HHd.out.cellsAt i t (by omega)).2)
        have S := HHd.out.cut i (zrs (l.length - i))
        have N := HD.out.done
        have N2 : Hid ((l.filter (fun x => !p x)).length = i) := Lib.hid (by rw [← N, List.length_take]; omega)
        rw [N] at S
        have SH := Lib.hid S
        have SA := Lib.hid (HB.out.trans (apt_cells b (zrs (l.length - i)) (off + i * 5) wr))
        clear S N
        go_wp2
        go_ret
        exact ⟨by rw [N2.out]; rfl, SH.out, SA.out⟩
theorem delR_none (a : Option Addr) (cap : Nat) (c1 c2 : Value) (w : World) :
    Calls Tryz.prog 10 #[.slice a 0 cap, .func (.func 9) #[] #[c1, c2]] w fun e w' => e = .returned (.slice a 0 cap) ∧ w' = w := by
  have KI : Calls Tryz.prog 24 #[.slice a 0 cap, .func (.func 9) #[] #[c1, c2]] w fun e w' => e = .returned (.int .i64 (-1)) ∧ w' = w := by
    go_enter Tryz.func24, Tryz.ntmps24
    go_wp2
    go_loop [8] (fun i => i = .int .i64 0) (fun _ => 0)
    case atStart => rfl
    case round =>
      subst hrel
      go_wp2
      go_ret
      exact ⟨rfl, rfl⟩
  have HK := Lib.hid KI
  clear KI
  go_enter Tryz.func10, Tryz.ntmps10
  go_wp2_with fail
  refine HK.out.mono ?_
  rintro e w1 ⟨rfl, hw⟩
  replace hw := hw.symm
  subst hw
  go_wp2
  go_ret
  exact ⟨rfl, rfl⟩
/-- Is a ring out of a stretch? -/
def ouB (fr t : Int) (x : Rg) : Bool := decide (x.1 < fr ∨ t ≤ x.1)
theorem isOut_any (nm : ByteArray) (fr t : Int) (x : Rg) (b1 b2 : Nat) (w : World) (h1 : w.cell? ⟨b1, 0, none⟩ = some (.int .i64 fr)) (h2 : w.cell? ⟨b2, 0, none⟩ = some (.int .i64 t)) :
    Calls Tryz.prog 9 #[.agg #[.int .i64 x.1, .string nm, .int .i64 x.2.1, .int .i64 x.2.2.1, .int .i64 x.2.2.2], .pointer (some ⟨b1, 0, none⟩), .pointer (some ⟨b2, 0, none⟩)] w fun e w' => e = .returned (.bool (ouB fr t x)) ∧ Below w.heap.size w w' := by
  have B0 := (Below.refl w.heap.size w).alloc (Nat.le_refl _) (.cells #[.int .i64 x.1, .string nm, .int .i64 x.2.1, .int .i64 x.2.2.1, .int .i64 x.2.2.2] 41)
  have HB := Lib.hid B0
  have c1 := (B0.cell (p := ⟨b1, 0, none⟩) (ecell_in h1)).trans h1
  have c2 := (B0.cell (p := ⟨b2, 0, none⟩) (ecell_in h2)).trans h2
  have l1 := ecell_in h1
  have l2 := ecell_in h2
  have N1 : Hid (x.1 < fr → ouB fr t x = true) := Lib.hid (fun q => decide_eq_true (Or.inl q))
  have N2 : Hid (t ≤ x.1 → ouB fr t x = true) := Lib.hid (fun q => decide_eq_true (Or.inr q))
  have N3 : Hid (¬ x.1 < fr → ¬ t ≤ x.1 → ouB fr t x = false) := Lib.hid (fun q k => decide_eq_false (by omega))
  generalize ouB fr t x = R at N1 N2 N3 ⊢
  clear B0 h1 h2
  by_cases g1 : x.1 < fr
  · have N := Lib.hid (N1.out g1)
    clear N1 N2 N3
    go_enter Tryz.func9, Tryz.ntmps9
    go_wp2
    go_ret
    exact ⟨ret_bool N.out.symm, HB.out⟩
  by_cases g2 : t ≤ x.1
  · have N := Lib.hid (N2.out g2)
    clear N1 N2 N3
    go_enter Tryz.func9, Tryz.ntmps9
    go_wp2
    go_ret
    exact ⟨ret_bool N.out.symm, HB.out⟩
  · have N := Lib.hid (N3.out g1 g2)
    clear N1 N2 N3
    go_enter Tryz.func9, Tryz.ntmps9
    go_wp2
    go_ret
    exact ⟨ret_bool N.out.symm, HB.out⟩
end Go.Proofs.YtdiijpjfkgnjkafGreatDoor
