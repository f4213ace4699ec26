/-
  What is proved here: rows of numbers that may be written; what slices.IndexFunc and slices.DeleteFunc answer at numbers and the closure of event.between (contracts over the translation).
-/
import Derived.Test.YtkmmncebekcegaaGreatDoorInts
import Derived.Test.YtkmmncebekcegaaGreatDoorEvLow
import Derived.Sort.Row
import Derived.Lib.SliceRun
import Derived.Laws.IdiomCopy
import Derived.BigQuiet
import Derived.Shelf.Abstract
namespace Go.Proofs.YtkmmncebekcegaaGreatDoor
open Go.RowKit Cal

/-- Cells hold numbers, and may be written. -/
def Hol (w : World) (b off : Nat) (l : List Int) : Prop := ∀ j, j < l.length → w.cell? ⟨b, off + j, none⟩ = some (.int .i64 (l.getD j 0)) ∧ w.frozen? ⟨b, off + j, none⟩ = false
theorem arr_get (l : List Int) (j : Nat) (h : j < l.length) : l.toArray[j]! = l.getD j 0 := by
  rw [getElem!_pos _ j (by simpa using h), List.getD_eq_getElem?_getD, List.getElem?_eq_getElem h]; simp
theorem Hol.holds {w : World} {b off : Nat} {l : List Int} (h : Hol w b off l) : Sort.Holds (Value.int .i64) w b off l.toArray := fun j hj => by
  have hj' : j < l.length := by simpa using hj
  rw [arr_get l j hj']; exact h j hj'
theorem Hol.of {w : World} {b off : Nat} {l : List Int} (h : Sort.Holds (Value.int .i64) w b off l.toArray) : Hol w b off l := fun j hj => by
  have := h j (by simpa using hj)
  rwa [arr_get l j hj] at this
theorem below_put {n0 : Nat} {w : World} {b off : Nat} {d : Array Int} (hb : n0 ≤ b) : Below n0 w (Sort.putRow (Value.int .i64) w b off d) :=
  ⟨rfl, rfl, rfl, by simp, fun k hk => by
    simp only [Sort.putRow, Sort.mapBlock, Array.getElem?_modify]
    rw [if_neg (by omega)]⟩
theorem Hol.lt {w : World} {b off : Nat} {l : List Int} (h : Hol w b off l) (h0 : 0 < l.length) : b < w.heap.size := by
  have k := (h 0 h0).1
  rcases Nat.lt_or_ge b w.heap.size with q | q
  · exact q
  · simp [World.cell?, Array.getElem?_eq_none q] at k
theorem Hol.store {n0 : Nat} {w : World} {b off : Nat} {l : List Int} (h : Hol w b off l) (i : Nat) (x : Int) (hi : i < l.length) (hb : n0 ≤ b) :
    Hol (w.setCell ⟨b, off + i, none⟩ (.int .i64 x)) b off (l.set i x) ∧ Below n0 w (w.setCell ⟨b, off + i, none⟩ (.int .i64 x)) := by
  have e : w.setCell ⟨b, off + i, none⟩ (.int .i64 x) = Sort.putRow (Value.int .i64) w b off (l.toArray.setIfInBounds i x) := by
    have := Sort.putRow_set (Value.int .i64) w b off l.toArray i x (by simpa using hi)
    rw [Sort.putRow_self (Value.int .i64) w b off l.toArray h.holds] at this
    exact this
  rw [e]
  refine ⟨?_, below_put hb⟩
  have k := Sort.holds_putRow (Value.int .i64) w b off l.toArray (l.toArray.setIfInBounds i x) h.holds (by simp)
  rw [List.setIfInBounds_toArray] at k
  rw [List.setIfInBounds_toArray]
  exact Hol.of k
theorem Hol.take {w : World} {b off : Nat} {l : List Int} (h : Hol w b off l) (i : Nat) : Hol w b off (l.take i) := fun j hj => by
  rw [List.length_take] at hj
  have := h j (by omega)
  rwa [List.getD_eq_getElem?_getD, List.getElem?_take, if_pos (by omega), ← List.getD_eq_getElem?_getD]
theorem Hol.cut {n0 : Nat} {w : World} {b off : Nat} {l : List Int} (h : Hol w b off l) (i : Nat) (vs : List Value) (hi : i ≤ l.length) (hb : n0 ≤ b) :
    Hol (w.setCells b (off + i) vs) b off (l.take i) ∧ Below n0 w (w.setCells b (off + i) vs) := by
  refine ⟨fun j hj => ?_, ?_⟩
  · have hj2 := hj
    rw [List.length_take] at hj2
    rw [World.cell?_setCells_out b vs (off + i) w ⟨b, off + j, none⟩ (fun _ _ => Or.inl (by show off + j < off + i; omega)), World.frozen?_setCells]
    exact (h.take i) j hj
  · exact blw_cells hb vs (off + i) w
/-- A block is a row of so many numbers that may be written. -/
def Shp (w : World) (g cap : Nat) : Prop := ∃ cur, w.heap[g]? = some (.cells cur 3 (0, 0)) ∧ cur.size = cap
/-- Its shape is as it was. -/
def Shs (g : Nat) (w w' : World) : Prop := ∀ cap, Shp w g cap → Shp w' g cap
theorem Shs.refl (g : Nat) (w : World) : Shs g w w := fun _ h => h
theorem Shs.trans {g : Nat} {a b c : World} (h : Shs g a b) (k : Shs g b c) : Shs g a c := fun n q => k n (h n q)
theorem shs_drewN (g : Nat) (w : World) (q : Nat) : Shs g w (w.drewN q) := fun _ h => h
theorem shs_map (g b : Nat) (w : World) (f : Array Value → Array Value) (hf : ∀ c, (f c).size = c.size) : Shs g w (Sort.mapBlock w b f) := fun n ⟨cur, h1, h2⟩ => by
  by_cases e : b = g
  · subst e
    refine ⟨f cur, ?_, by rw [hf]; exact h2⟩
    simp only [Sort.mapBlock, Array.getElem?_modify, if_true, h1]
    rfl
  · refine ⟨cur, ?_, h2⟩
    simp only [Sort.mapBlock, Array.getElem?_modify]
    rw [if_neg e]; exact h1
theorem shs_put (g b off : Nat) (w : World) (d : Array Int) : Shs g w (Sort.putRow (Value.int .i64) w b off d) := shs_map g b w _ (fun c => by simp [Sort.putCells])
theorem shs_cell (g b off : Nat) (w : World) (v : Value) : Shs g w (w.setCell ⟨b, off, none⟩ v) := by
  rw [Sort.setCell_eq]; exact shs_map g b w _ (fun c => by simp)
theorem shs_cells (g b : Nat) : ∀ (vs : List Value) (o : Nat) (w : World), Shs g w (w.setCells b o vs)
  | [], _, w => Shs.refl g w
  | v :: r, o, w => (shs_cell g b o w v).trans (shs_cells g b r (o + 1) _)
/-- How far the closure of event.between answers: what it asks, the world but for the count of draws as it was. -/
def Cls (n0 : Nat) (w : World) (c1 c2 c3 : Value) (p : Int → Bool) : Prop :=
  ∀ (x : Int) (W : World), Below n0 w W → Calls Tryz.prog 151 #[.int .i64 x, c1, c2, c3] W fun e w' => e = .returned (.bool (p x)) ∧ ∃ q, w' = W.drewN q
theorem blw_drewN (n0 : Nat) (w : World) (q : Nat) : Below n0 w (w.drewN q) := ⟨rfl, rfl, rfl, Nat.le_refl _, fun _ _ => rfl⟩
theorem Hol.drewN {w : World} {b off : Nat} {l : List Int} (h : Hol w b off l) (q : Nat) : Hol (w.drewN q) b off l := h
theorem any_tk (p : Int → Bool) (l : List Int) (k : Nat) (h : k < l.length) (ha : (l.take k).any p = false) (hp : p (l.getD k 0) = false) : (l.take (k + 1)).any p = false := by
  rw [List.take_succ_eq_append_getElem h, List.any_append, ha, List.any_cons, List.any_nil]
  rw [List.getD_eq_getElem?_getD, List.getElem?_eq_getElem h] at hp
  simpa using hp
set_option maxHeartbeats 1000000 in
theorem idx_any (c1 c2 c3 : Value) (p : Int → Bool) (l : List Int) (n0 b off cap : Nat) (w : World) (hC : Cls n0 w c1 c2 c3 p) (hh : Hol w b off l) (hl : l.length ≤ 1000000000) :
    Calls Tryz.prog 175 #[.slice (some ⟨b, off, none⟩) l.length cap, .func (.func 151) #[] #[c1, c2, c3]] w fun e w' => (∃ q, w' = w.drewN q) ∧
      ((e = .returned (.int .i64 (-1)) ∧ l.any p = false) ∨ ∃ k : Nat, e = .returned (.int .i64 k) ∧ k < l.length ∧ (l.take k).any p = false ∧ p (l.getD k 0) = true) := by
  have HH := Lib.hid hh
  have HC := Lib.hid hC
  clear hh hC
  have eg : ∀ args w, (callFunc 151 args).run Tryz.prog w = .ok (.enter 151 args) w := enters_of Tryz.func151 (by kernel_rfl) rfl
  go_enter Tryz.func175, Tryz.ntmps175
  go_wp2
  go_loopw [8] (fun i wr => ∃ k q : Nat, k ≤ l.length ∧ i = .int .i64 k ∧ (l.take k).any p = false ∧ wr = w.drewN q) (fun i _ => l.length - (intOf i).toNat)
  case atStart => exact ⟨0, 0, Nat.zero_le _, rfl, rfl, rfl⟩
  case round =>
    obtain ⟨k, q, hk, rfl, hF, rfl⟩ := hrel
    have HF := Lib.hid hF
    clear hF
    by_cases hlt : k < l.length
    · have ck : (w.drewN q).cell? ⟨b, off + k, none⟩ = some (.int .i64 (l.getD k 0)) := (HH.out k hlt).1
      obtain ⟨x, hx⟩ : ∃ x, x = l.getD k 0 := ⟨_, rfl⟩
      rw [← hx] at ck
      have HX := Lib.hid hx
      have K := Lib.hid (HC.out x (w.drewN q) (blw_drewN _ _ _))
      clear hx
      go_wp2_with fail
      refine K.out.mono ?_
      rintro e w' ⟨rfl, q2, rfl⟩
      clear K ck
      rcases hp : p x with _ | _
      · have N1 := Lib.hid (any_tk p l k hlt HF.out (by rw [← HX.out]; exact hp))
        go_wp2
        go_roundw
        case rel => exact ⟨k + 1, q + q2, by omega, by go_num, N1.out, by first | rfl | rw [World.drewN_drewN]⟩
        case measure => simp [intOf]; omega
      · have N1 : Hid (p (l.getD k 0) = true) := Lib.hid (by rw [← HX.out]; exact hp)
        go_wp2
        go_ret
        exact ⟨⟨q + q2, by first | rfl | rw [World.drewN_drewN]⟩, Or.inr ⟨k, rfl, hlt, HF.out, N1.out⟩⟩
    · have N1 : Hid (l.any p = false) := Lib.hid (by have := HF.out; rwa [List.take_of_length_le (by omega)] at this)
      go_wp2
      go_ret
      exact ⟨⟨q, rfl⟩, Or.inl ⟨rfl, N1.out⟩⟩
/-- How far the deleting has come. -/
def DInv (l : List Int) (p : Int → Bool) (j i : Nat) (d : List Int) : Prop :=
  d.length = l.length ∧ i < j ∧ j ≤ l.length ∧ d.take i = (l.take j).filter (fun x => !p x) ∧ ∀ t, j ≤ t → d.getD t 0 = l.getD t 0
theorem DInv.begin {l : List Int} {p : Int → Bool} {k : Nat} (hk : k < l.length) (ha : (l.take k).any p = false) (hp : p (l.getD k 0) = true) : DInv l p (k + 1) k l := by
  refine ⟨rfl, by omega, by omega, ?_, fun t _ => rfl⟩
  rw [List.take_succ_eq_append_getElem hk, List.filter_append]
  rw [List.getD_eq_getElem?_getD, List.getElem?_eq_getElem hk] at hp
  have hp' : p l[k] = true := hp
  rw [List.filter_eq_self.2 (fun x hx => by have := List.any_eq_false.1 ha x hx; simpa using this)]
  simp [hp']
theorem DInv.skip {l : List Int} {p : Int → Bool} {j i : Nat} {d : List Int} (h : DInv l p j i d) (hj : j < l.length) (hp : p (l.getD j 0) = true) : DInv l p (j + 1) i d := by
  obtain ⟨a, b, c, e, f⟩ := h
  refine ⟨a, by omega, by omega, ?_, fun t ht => f t (by omega)⟩
  rw [List.getD_eq_getElem?_getD, List.getElem?_eq_getElem hj] at hp
  have hp' : p l[j] = true := hp
  rw [List.take_succ_eq_append_getElem hj, List.filter_append, ← e]
  simp [hp']
theorem DInv.keep {l : List Int} {p : Int → Bool} {j i : Nat} {d : List Int} (h : DInv l p j i d) (hj : j < l.length) (hp : p (l.getD j 0) = false) : DInv l p (j + 1) (i + 1) (d.set i (l.getD j 0)) := by
  obtain ⟨a, b, c, e, f⟩ := h
  refine ⟨by simpa using a, by omega, by omega, ?_, fun t ht => ?_⟩
  · rw [List.take_succ_eq_append_getElem (l := l) hj, List.filter_append, ← e]
    rw [List.getD_eq_getElem?_getD, List.getElem?_eq_getElem hj] at hp ⊢
    have hp' : p l[j] = false := hp
    rw [List.take_succ_eq_append_getElem (by rw [List.length_set]; omega), List.take_set_of_le (Nat.le_refl _)]
    simp [hp']
  · rw [List.getD_eq_getElem?_getD, List.getElem?_set_ne (by omega), ← List.getD_eq_getElem?_getD]
    exact f t (by omega)
theorem DInv.done {l : List Int} {p : Int → Bool} {i : Nat} {d : List Int} (h : DInv l p l.length i d) : d.take i = l.filter (fun x => !p x) := by
  have := h.2.2.2.1
  rwa [List.take_length] at this
/-- What is answered by what deletes: a row that may be written, in the same block. -/
def RowA (n0 : Nat) (w : World) (l : List Int) (b off cap : Nat) (e : Ending) (w' : World) : Prop :=
  e = .returned (.slice (some ⟨b, off, none⟩) l.length cap) ∧ Hol w' b off l ∧ Below n0 w w' ∧ Shs b w w'
set_option maxRecDepth 100000 in
set_option maxHeartbeats 2000000 in
theorem del_any (c1 c2 c3 : Value) (p : Int → Bool) (l : List Int) (n0 b off cap : Nat) (w : World) (hC : Cls n0 w c1 c2 c3 p) (hh : Hol w b off l) (hb : n0 ≤ b) (h0 : 0 < l.length) (hcap : l.length ≤ cap) (hl : l.length ≤ 1000000000) :
    Calls Tryz.prog 153 #[.slice (some ⟨b, off, none⟩) l.length cap, .func (.func 151) #[] #[c1, c2, c3]] w (RowA n0 w (l.filter (fun x => !p x)) b off cap) := by
  have K := Lib.hid (idx_any c1 c2 c3 p l n0 b off cap w hC hh (by omega))
  have HH := Lib.hid hh
  have HC := Lib.hid hC
  have HN := Lib.hid hb
  clear hh hC hb
  have eg : ∀ args w, (callFunc 151 args).run Tryz.prog w = .ok (.enter 151 args) w := enters_of Tryz.func151 (by kernel_rfl) rfl
  go_enter Tryz.func153, Tryz.ntmps153
  go_wp2_with fail
  refine K.out.mono ?_
  rintro e w1 ⟨⟨q1, rfl⟩, hx⟩
  clear K
  rcases hx with ⟨rfl, ha⟩ | ⟨k, rfl, hk, ha, hp⟩
  · have N : Hid (l.filter (fun x => !p x) = l) := Lib.hid (List.filter_eq_self.2 (fun x hx => by have := List.any_eq_false.1 ha x hx; simpa using this))
    clear ha
    go_wp2
    go_ret
    exact ⟨by rw [N.out]; rfl, by rw [N.out]; exact HH.out.drewN q1, blw_drewN _ _ _, shs_drewN _ _ _⟩
  · have D0 := Lib.hid (DInv.begin hk ha hp)
    have nk : ((k : Int) == -1) = false := by simp
    clear ha hp
    go_wp2_with fail
    go_loopw [5, 6] (fun iv jv wr => ∃ (i j : Nat) (d : List Int), iv = .int .i64 i ∧ jv = .int .i64 j ∧ DInv l p j i d ∧ Hol wr b off d ∧ Below n0 w wr ∧ Shs b w wr) (fun _ jv _ => l.length - (intOf jv).toNat)
    case atStart => exact ⟨k, k + 1, l, rfl, by go_num, D0.out, HH.out.drewN q1, blw_drewN _ _ _, shs_drewN _ _ _⟩
    case round =>
      obtain ⟨i, j, d, rfl, rfl, hD, hh, hB, hS⟩ := hrel
      have HSh := Lib.hid hS
      clear hS
      have ij := hD.2.1
      have jl := hD.2.2.1
      have dl := hD.1
      have HD := Lib.hid hD
      have HHd := Lib.hid hh
      have HB := Lib.hid hB
      clear hD hh hB D0
      by_cases hlt : j < l.length
      · have ck := (HHd.out j (by omega)).1
        obtain ⟨ci, fi⟩ := HHd.out i (by omega)
        rw [HD.out.2.2.2.2 j (Nat.le_refl _)] at ck
        obtain ⟨x, hx⟩ : ∃ x, x = l.getD j 0 := ⟨_, rfl⟩
        rw [← hx] at ck
        have HX := Lib.hid hx
        have K := Lib.hid (HC.out x wr HB.out)
        clear hx
        go_wp2_with fail
        clear ck
        refine K.out.mono ?_
        rintro e w2 ⟨rfl, q2, rfl⟩
        clear K
        rcases hp : p x with _ | _
        · have M := HHd.out.drewN q2
          have S := M.store (n0 := n0) i x (by omega) HN.out
          have SB := Lib.hid ((HB.out.trans (blw_drewN _ _ q2)).trans S.2)
          have SH := Lib.hid S.1
          have SS := Lib.hid ((HSh.out.trans (shs_drewN _ _ q2)).trans (shs_cell b b (off + i) (wr.drewN q2) (.int .i64 x)))
          have N1 := Lib.hid (HD.out.keep hlt (by rw [← HX.out]; exact hp))
          rw [← HX.out] at N1
          clear S M
          go_wp2
          go_roundw
          case rel => exact ⟨i + 1, j + 1, d.set i x, by go_num, by go_num, N1.out, SH.out, SB.out, SS.out⟩
          case measure => simp [intOf]; omega
        · have N1 := Lib.hid (HD.out.skip hlt (by rw [← HX.out]; exact hp))
          have SB := Lib.hid (HB.out.trans (blw_drewN _ _ q2))
          have SH := Lib.hid (HHd.out.drewN q2)
          have SS := Lib.hid (HSh.out.trans (shs_drewN b wr q2))
          go_wp2
          go_roundw
          case rel => exact ⟨i, j + 1, d, rfl, by go_num, N1.out, SH.out, SB.out, SS.out⟩
          case measure => simp [intOf]; omega
      · obtain rfl : j = l.length := by omega
        have hcl : ∀ ty, (Builtin.clear_ #[25] ty #[.slice (some ⟨b, off + i, none⟩) (l.length - i) (cap - i)]).run Tryz.prog wr = .ok (.tuple #[]) (wr.setCells b (off + i) (List.replicate (l.length - i) (.int .i64 0))) :=
          fun ty => Lib.run_clear_slice wr _ _ ty _ Tryz.underlying25 (fun _ => by kernel_rfl) rfl rfl b (off + i) _ _ (by omega) (fun t ht => by rw [show off + i + t = off + (i + t) by omega, (HHd.out (i + t) (by omega)).1]; rfl) (fun t ht => by rw [show off + i + t = off + (i + t) by omega]; exact (HHd.out (i + t) (by omega)).2)
        have S := HHd.out.cut (n0 := n0) i (List.replicate (l.length - i) (.int .i64 0)) (by omega) HN.out
        have N := HD.out.done
        have N2 : Hid ((l.filter (fun x => !p x)).length = i) := Lib.hid (by rw [← N, List.length_take]; omega)
        rw [N] at S
        have SH := Lib.hid S.1
        have SB := Lib.hid (HB.out.trans S.2)
        have SS := Lib.hid (HSh.out.trans (shs_cells b b (List.replicate (l.length - i) (.int .i64 0)) (off + i) wr))
        clear S N
        go_wp2
        go_ret
        exact ⟨by rw [N2.out]; rfl, SH.out, SB.out, SS.out⟩
end Go.Proofs.YtkmmncebekcegaaGreatDoor
