/-
  What is proved here: what slices.Sort, slices.Compact and an append do to a row of numbers that may be written; what the closure of event.between and event.between itself answer (contracts over the translation).
-/
import Derived.Test.YtcillnphabddaaeGreatDoorEvList
import Derived.Test.YtcillnphabddaaeGreatDoorEvDel
import Derived.Test.YtcillnphabddaaeGreatDoorOwn
import Derived.Test.YtcillnphabddaaeGreatDoorShelf
import Derived.Maps.AppendAt
import Derived.Sort.Grow
import Derived.Lib.RowBridge
import Derived.Laws.OwnMore
namespace Go.Proofs.YtcillnphabddaaeGreatDoor
open Go.RowKit Cal Txt

theorem blw_ahead (n0 : Nat) (w : World) (q : Nat) : Below n0 w (Sort.ahead w q) := ⟨rfl, rfl, rfl, Nat.le_refl _, fun _ _ => rfl⟩
theorem blw_grow {n0 : Nat} {w : World} (h : n0 ≤ w.heap.size) (os : Array Obj) : Below n0 w (Sort.grow w os) :=
  ⟨rfl, rfl, rfl, by simp, fun k hk => Sort.heap_grow_old w os (by omega)⟩
theorem srt_any (l : List Int) (n0 b off cap : Nat) (w : World) (hh : Hol w b off l) (hb : n0 ≤ b) (hl : l.length ≤ 1000000000) :
    Calls Tryz.prog 20 #[.slice (some ⟨b, off, none⟩) l.length cap] w fun e w' => e = .returned (.tuple #[]) ∧ Hol w' b off (l.mergeSort (fun x y => decide (x ≤ y))) ∧ Below n0 w w' := by
  by_cases h0 : l.length = 0
  · obtain rfl := List.eq_nil_of_length_eq_zero h0
    refine (Tryz.slices_Sort_int_none (some ⟨b, off, none⟩) cap w).mono ?_
    rintro e w' ⟨rfl, rfl⟩
    exact ⟨rfl, by rw [List.mergeSort_nil]; exact hh, Below.refl _ _⟩
  · have hlt := hh.lt (by omega)
    refine (Tryz.slices_Sort_int b off cap l w hh.holds hlt (by omega)).mono ?_
    rintro e w' ⟨rfl, n, os, rfl⟩
    refine ⟨rfl, ?_, ?_⟩
    · refine Hol.of (Sort.holds_grow _ _ _ _ _ _ (by simpa using hlt) ?_)
      exact Sort.holds_putRow (Value.int .i64) (Sort.ahead w n) b off l.toArray _ hh.holds (by simp)
    · exact ((blw_ahead n0 w n).trans (below_put hb)).trans (blw_grow (by simp; omega) os)
theorem cmp_any (l : List Int) (n0 b off cap : Nat) (w : World) (hh : Hol w b off l) (hb : n0 ≤ b) (hcap : l.length ≤ cap) (hl : l.length ≤ 1000000000) :
    Calls Tryz.prog 21 #[.slice (some ⟨b, off, none⟩) l.length cap] w (RowA n0 w (Lib.compact l) b off cap) := by
  refine (Tryz.slices_Compact_int b off cap l w hh.holds (by omega) hcap).mono ?_
  rintro e w' ⟨rfl, q, rfl⟩
  have hle := Lib.compact_length_le l
  refine ⟨rfl, ?_, (blw_ahead n0 w q).trans (below_put hb)⟩
  have k := Hol.of (Sort.holds_putRow (Value.int .i64) (Sort.ahead w q) b off l.toArray (Lib.compact l ++ List.replicate (l.length - (Lib.compact l).length) 0).toArray hh.holds (by simp; omega))
  have k2 := k.take (Lib.compact l).length
  rwa [List.take_left] at k2
/-- A row of one's own may be written. -/
theorem own_hol {w : World} {n0 : Nat} {v : Value} {l : List Int} (h : w.ownsRow n0 3 1 v l.length (nums l)) : (v = .slice none 0 0 ∧ l = []) ∨ ∃ g cap, v = .slice (some ⟨g, 0, none⟩) l.length cap ∧ n0 ≤ g ∧ l.length ≤ cap ∧ cap ≤ maxLen ∧ Hol w g 0 l := by
  rcases h.2 with ⟨hv, h0⟩ | ⟨g, cap, cur, hv, hb, hg, hc, hm, hs, ht⟩
  · exact Or.inl ⟨hv, List.eq_nil_of_length_eq_zero h0⟩
  · refine Or.inr ⟨g, cap, hv, hb, hc, hm, fun i hi => ⟨?_, by simp [World.frozen?, hg]⟩⟩
    have := h.cells (g := g) (by rw [hv]; rfl) i (.int .i64 (l.getD i 0)) (by unfold nums; rw [List.getElem?_map, List.getElem?_eq_getElem hi, List.getD_eq_getElem?_getD, List.getElem?_eq_getElem hi]; rfl)
    have hadd : (⟨g, 0, none⟩ : Addr).add i = ⟨g, 0 + i, none⟩ := by unfold Addr.add; split <;> simp_all
    rw [hadd] at this
    exact this
theorem info_ev_int : (Tryz.prog.info? 3).map (fun i => (i.zero, i.size, i.bytes)) = some (some (.int .i64 0), 1, 8) := by kernel_rfl
theorem app_any {w : World} {n0 : Nat} {v vo : Value} {l mo : List Int} (h : w.ownsRow n0 3 1 v l.length (nums l)) (hm : Ints w vo mo) (hn : n0 ≤ w.heap.size) (hl : l.length + mo.length ≤ 1000000) :
    ∃ v' w', (∀ ty, (Builtin.append_ #[22, 22] ty #[v, vo]).run Tryz.prog w = .ok v' w') ∧ w'.ownsRow n0 3 1 v' (l ++ mo).length (nums (l ++ mo)) ∧ Below n0 w w' := by
  obtain ⟨i0, hi, hz0, hz1, hz2⟩ := info_parts info_ev_int
  obtain ⟨a, cap, rfl, hc⟩ := hm
  have own : ∀ (v' : Value) (w' : World), w'.ownsRow n0 3 1 v' (l.length + mo.length) (nums l ++ nums mo) → w'.ownsRow n0 3 1 v' (l ++ mo).length (nums (l ++ mo)) := fun v' w' q => by
    rw [List.length_append, show nums (l ++ mo) = nums l ++ nums mo by simp [nums]]; exact q
  have blw : ∀ w' : World, w.grownBy w' v.ownBlock → Below n0 w w' := fun w' q => (Below.refl n0 w).grown q hn (fun j hj => (h.lt j hj).1)
  have some_ : ∀ ad : Addr, (∀ j u, (nums mo)[j]? = some u → w.cell? (ad.add j) = some u) → ∃ (v' : Value) (w' : World), (∀ ty, (Builtin.append_ #[22, 22] ty #[v, .slice (some ad) mo.length cap]).run Tryz.prog w = .ok v' w') ∧ w'.ownsRow n0 3 1 v' (l ++ mo).length (nums (l ++ mo)) ∧ Below n0 w w' := fun ad hcell => by
    obtain ⟨v', w', hr, r1, r2, _, _⟩ := run_append_own_at (P := Tryz.prog) w n0 22 22 3 i0 (.int .i64 0) 1 8 Tryz.underlying22 hi hz0 hz1 hz2 rfl (by decide) v l.length (nums l) h ad mo.length cap (nums mo) (by simp [nums]) hcell (fun u hu => by
      unfold nums at hu
      obtain ⟨x, _, rfl⟩ := List.mem_map.1 hu
      rfl) (by unfold maxLen; omega) (by omega) hn
    exact ⟨v', w', fun ty => hr, own v' w' r1, blw w' r2⟩
  rcases hc with rfl | ⟨b, off, rfl, hc⟩
  · rcases a with _ | ad
    · refine ⟨v, w, fun ty => ?_, own v w (by simpa [nums] using h), Below.refl _ _⟩
      rcases h.2 with ⟨rfl, h0⟩ | ⟨g, cp, cur, rfl, _, hg, hnc, _, _, _⟩
      · simp [Builtin.append_, run_underlying Tryz.underlying22, sizeOf, typeInfo, hi, Builtin.lenOf, Builtin.firstCells]
      · simp [Builtin.append_, run_underlying Tryz.underlying22, sizeOf, typeInfo, hi, Builtin.lenOf, Builtin.firstCells, hnc, storeCells]
    · exact some_ ad (fun j u hu => by simp [nums] at hu)
  · refine some_ ⟨b, off, none⟩ (fun j u hu => ?_)
    unfold nums at hu
    rw [List.getElem?_map] at hu
    rcases hm : mo[j]? with _ | x
    · rw [hm] at hu; cases hu
    · rw [hm] at hu
      have hj : j < mo.length := (List.getElem?_eq_some_iff.1 hm).1
      have hadd : (⟨b, off, none⟩ : Addr).add j = ⟨b, off + j, none⟩ := by unfold Addr.add; split <;> simp_all
      rw [hadd, hc j hj, List.getD_eq_getElem?_getD, hm]
      exact hu
theorem risB_pw {l : List Int} (h : risB l = true) : l.Pairwise (· < ·) := by
  have k := risB_iff.1 h
  refine List.pairwise_iff_getElem.2 (fun i j hi hj hij => ?_)
  have aux : ∀ n, i + n + 1 < l.length → l.getD i 0 < l.getD (i + n + 1) 0 := by
    intro n
    induction n with
    | zero => intro q; exact k i q
    | succ n ih => intro q; exact Int.lt_trans (ih (by omega)) (k (i + n + 1) q)
  have := aux (j - i - 1) (by omega)
  rw [show i + (j - i - 1) + 1 = j by omega, List.getD_eq_getElem?_getD, List.getElem?_eq_getElem hi, List.getD_eq_getElem?_getD, List.getElem?_eq_getElem hj] at this
  exact this
set_option maxHeartbeats 1000000 in
theorem search_any (l : List Int) (v : Value) (x : Int) (w : World) (hv : Ints w v l) (hr : risB l = true) (hl : l.length ≤ 100) :
    Calls Tryz.prog 18 #[v, .int .i64 x] w fun e w' => (∃ k, e = .returned (.tuple #[.int .i64 k, .bool (l.contains x)])) ∧ ∃ q, w' = w.drewN q := by
  obtain ⟨a, cap, rfl, hc⟩ := hv
  rcases hc with rfl | ⟨b, off, rfl, hc⟩
  · refine (Tryz.slices_BinarySearch_int_empty a cap x w).mono ?_
    rintro e w' ⟨rfl, rfl⟩
    exact ⟨⟨_, rfl⟩, 0, rfl⟩
  · refine (Tryz.slices_BinarySearch_int b off l.length cap l x w (Nat.le_refl _) (by omega) hc (by rw [List.take_length]; exact (risB_pw hr).imp (fun q => Int.le_of_lt q))).mono ?_
    rintro e w' ⟨rfl, q, rfl⟩
    exact ⟨⟨_, by rw [List.take_length]⟩, q, rfl⟩
set_option maxRecDepth 100000 in
set_option maxHeartbeats 2000000 in
theorem out_any (e : Evt) (s : Evs) (eb fb tb : Nat) (fr t x : Int) (w : World) (hE : EBox w eb e s) (hf : w.cell? ⟨fb, 0, none⟩ = some (.int .i64 fr)) (ht : w.cell? ⟨tb, 0, none⟩ = some (.int .i64 t)) (hn : Ints w s.vn e.nots) (hr : risB e.nots = true) (hl : e.nots.length ≤ 100) :
    Calls Tryz.prog 17 #[.int .i64 x, .pointer (some ⟨eb, 0, none⟩), .pointer (some ⟨fb, 0, none⟩), .pointer (some ⟨tb, 0, none⟩)] w fun y w' => y = .returned (.bool (outB e fr t x)) ∧ ∃ q, w' = w.drewN q := by
  have c14 := hE.2.2.2.1
  have K := Lib.hid (search_any e.nots s.vn x w hn hr hl)
  have N : Hid (outB e fr t x = (e.nots.contains x || !decide (fr ≤ x ∧ x ≤ t))) := Lib.hid rfl
  generalize outB e fr t x = R at N ⊢
  generalize s.vn = vn at c14 K
  generalize e.nots.contains x = C at N K
  clear hn hr hl hE
  go_enter Tryz.func17, Tryz.ntmps17
  go_wp2_with fail
  refine K.out.mono ?_
  rintro y w1 ⟨⟨k, rfl⟩, q, rfl⟩
  have hf' : (w.drewN q).cell? ⟨fb, 0, none⟩ = some (.int .i64 fr) := hf
  have ht' : (w.drewN q).cell? ⟨tb, 0, none⟩ = some (.int .i64 t) := ht
  clear K c14 hf ht
  rcases C with _ | _
  · go_wp2_with (go_at_call 11; refine (isFrom_any _ _ _ _).mono ?_; rintro e w' ⟨rfl, rfl⟩)
    go_ret
    exact ⟨ret_bool (by rw [N.out]; simp [Bool.decide_and, Bool.not_and]), q, rfl⟩
  · go_wp2
    go_ret
    exact ⟨ret_bool (by rw [N.out]; rfl), q, rfl⟩
theorem idx_none (c1 c2 c3 : Value) (a : Option Addr) (cap : Nat) (w : World) :
    Calls Tryz.prog 39 #[.slice a 0 cap, .func (.func 17) #[] #[c1, c2, c3]] w fun e w' => e = .returned (.int .i64 (-1)) ∧ w' = w := by
  go_enter Tryz.func39, Tryz.ntmps39
  go_wp2
  go_loop [8] (fun i => i = .int .i64 0) (fun _ => 0)
  case atStart => rfl
  case round =>
    subst hrel
    go_wp2
    go_ret
    exact ⟨rfl, rfl⟩
theorem del_none (c1 c2 c3 : Value) (a : Option Addr) (cap : Nat) (w : World) :
    Calls Tryz.prog 19 #[.slice a 0 cap, .func (.func 17) #[] #[c1, c2, c3]] w fun e w' => e = .returned (.slice a 0 cap) ∧ w' = w := by
  go_enter Tryz.func19, Tryz.ntmps19
  go_wp2_with (go_at_call 39; refine (idx_none _ _ _ _ _ _).mono ?_; rintro e w' ⟨rfl, rfl⟩)
  go_ret
  exact ⟨rfl, rfl⟩
/-- A list that may be written, in a block from n0 on. -/
def Wr (n0 : Nat) (w : World) (v : Value) (l : List Int) : Prop := ∃ a cap, v = .slice a l.length cap ∧ l.length ≤ cap ∧ cap ≤ maxLen ∧ (l = [] ∨ ∃ b off, a = some ⟨b, off, none⟩ ∧ n0 ≤ b ∧ Hol w b off l)
theorem Wr.ints {n0 : Nat} {w : World} {v : Value} {l : List Int} (h : Wr n0 w v l) : Ints w v l := by
  obtain ⟨a, cap, rfl, _, _, hc⟩ := h
  refine ⟨a, cap, rfl, ?_⟩
  rcases hc with hc | ⟨b, off, ea, _, hc⟩
  · exact Or.inl hc
  · exact Or.inr ⟨b, off, ea, fun i hi => (hc i hi).1⟩
theorem Hol.wr {n0 n1 : Nat} {w : World} {b off cap : Nat} {l : List Int} (h : Hol w b off l) (hb : n0 ≤ b) (hn : n1 ≤ n0) (h1 : l.length ≤ cap) (h2 : cap ≤ maxLen) : Wr n1 w (.slice (some ⟨b, off, none⟩) l.length cap) l :=
  ⟨_, cap, rfl, h1, h2, Or.inr ⟨b, off, rfl, by omega, h⟩⟩
/-- What is answered of those of Start. -/
def OfA (n0 : Nat) (W : World) (l : List Int) (x : Ending) (w' : World) : Prop := ∃ v, x = .returned (.tuple #[v, .nilIface]) ∧ w'.ownsRow n0 3 1 v l.length (nums l) ∧ Below n0 W w'
/-- What is answered of times. -/
def LocA (w : World) (l : List Int) (x : Ending) (w' : World) : Prop := ∃ v, x = .returned (.tuple #[v, .nilIface]) ∧ Wr w.heap.size w' v l ∧ Below w.heap.size w w'
theorem three_new (w : World) (e : Evt) (s : Evs) (fr t : Int) : ∃ W, W = ((w.alloc (.cells (ecells e s) 29)).alloc (.cells #[.int .i64 fr] 3)).alloc (.cells #[.int .i64 t] 3) ∧ Below w.heap.size w W ∧ W.heap.size = w.heap.size + 3 ∧ EBox W w.heap.size e s ∧ W.cell? ⟨w.heap.size + 1, 0, none⟩ = some (.int .i64 fr) ∧ W.cell? ⟨w.heap.size + 2, 0, none⟩ = some (.int .i64 t) := by
  have a0 := EBox.new w e s 29
  have b0 := (Below.refl w.heap.size w).alloc (Nat.le_refl _) (.cells (ecells e s) 29)
  obtain ⟨W1, h1⟩ : ∃ W1, W1 = w.alloc (.cells (ecells e s) 29) := ⟨_, rfl⟩
  have s1 : W1.heap.size = w.heap.size + 1 := by rw [h1]; simp
  rw [← h1] at a0 b0
  rw [← h1]
  have b1 := (Below.refl W1.heap.size W1).alloc (Nat.le_refl _) (.cells #[.int .i64 fr] 3)
  have c1 : (W1.alloc (.cells #[.int .i64 fr] 3)).cell? ⟨w.heap.size + 1, 0, none⟩ = some (.int .i64 fr) := by rw [← s1]; simp
  obtain ⟨W2, h2⟩ : ∃ W2, W2 = W1.alloc (.cells #[.int .i64 fr] 3) := ⟨_, rfl⟩
  have s2 : W2.heap.size = w.heap.size + 2 := by rw [h2]; simp [s1]
  rw [← h2] at b1 c1
  rw [← h2]
  have b2 := (Below.refl W2.heap.size W2).alloc (Nat.le_refl _) (.cells #[.int .i64 t] 3)
  have c2 : (W2.alloc (.cells #[.int .i64 t] 3)).cell? ⟨w.heap.size + 2, 0, none⟩ = some (.int .i64 t) := by rw [← s2]; simp
  refine ⟨_, rfl, (b0.trans (b1.mono (by omega))).trans (b2.mono (by omega)), by simp [s2], (a0.on b1).on b2, (b2.cell (p := ⟨w.heap.size + 1, 0, none⟩) (by show w.heap.size + 1 < _; omega)).trans c1, c2⟩
theorem EBox.onb {B : Nat} {W W' : World} {b : Nat} {e : Evt} {s : Evs} (h : EBox W b e s) (q : Below B W W') (l : b < B) : EBox W' b e s := by
  have k : ∀ (o : Nat) (v : Value), W.cell? ⟨b, o, none⟩ = some v → W'.cell? ⟨b, o, none⟩ = some v := fun o v z => (q.cell (p := ⟨b, o, none⟩) l).trans z
  obtain ⟨⟨a0, a1, a2, a3, a4⟩, ⟨b0, b1, b2, b3, b4, b5, b6, b7⟩, c0, c1, c2, c3⟩ := h
  exact ⟨⟨k _ _ a0, k _ _ a1, k _ _ a2, k _ _ a3, k _ _ a4⟩, ⟨k _ _ b0, k _ _ b1, k _ _ b2, k _ _ b3, k _ _ b4, k _ _ b5, k _ _ b6, k _ _ b7⟩, k _ _ c0, k _ _ c1, k _ _ c2, k _ _ c3⟩
theorem own_hol2 {w : World} {n0 : Nat} {v : Value} {l : List Int} (h : w.ownsRow n0 3 1 v l.length (nums l)) : (∃ a cap, v = .slice a 0 cap ∧ l = [] ∧ cap ≤ maxLen) ∨ ∃ g cap, v = .slice (some ⟨g, 0, none⟩) l.length cap ∧ 0 < l.length ∧ n0 ≤ g ∧ l.length ≤ cap ∧ cap ≤ maxLen ∧ Hol w g 0 l := by
  rcases own_hol h with ⟨ev, en⟩ | ⟨g, cap, ev, hg, hcap, hmax, hh⟩
  · exact Or.inl ⟨none, 0, ev, en, Nat.zero_le _⟩
  · rcases Nat.eq_zero_or_pos l.length with z | z
    · exact Or.inl ⟨some ⟨g, 0, none⟩, cap, by rw [ev, z], List.eq_nil_of_length_eq_zero z, hmax⟩
    · exact Or.inr ⟨g, cap, ev, z, hg, hcap, hmax, hh⟩
end Go.Proofs.YtcillnphabddaaeGreatDoor
