/-
  What is proved here: what slices.Sort, slices.Compact and an append do to a row of numbers that may be written; what the closure of event.between and event.between itself answer (contracts over the translation).
  What is proved here: what event.between answers of any event that is right, out of what ofStart answers (a contract over the translation).
-/
import Derived.Test.YthdohcjingfpoaaGreatDoorRL
import Derived.Test.YthdohcjingfpoaaGreatDoorBF
import Derived.Test.YthdohcjingfpoaaGreatDoorShelf
import Derived.Maps.AppendAt
import Derived.Sort.Grow
import Derived.Lib.RowBridge
import Derived.Laws.OwnMore
namespace Go.Proofs.YthdohcjingfpoaaGreatDoor
open Go.RowKit Cal Txt

theorem blw_ahead (n0 : Nat) (w : World) (q : Nat) : Below n0 w (Sort.ahead w q) := ⟨rfl, rfl, rfl, Nat.le_refl _, fun _ _ => rfl⟩
theorem blw_grow {n0 : Nat} {w : World} (h : n0 ≤ w.heap.size) (os : Array Obj) : Below n0 w (Sort.grow w os) :=
  ⟨rfl, rfl, rfl, by simp, fun k hk => Sort.heap_grow_old w os (by omega)⟩
theorem shs_grow {g : Nat} {w : World} (h : g < w.heap.size) (os : Array Obj) : Shs g w (Sort.grow w os) := fun _ ⟨cur, h1, h2⟩ => ⟨cur, (Sort.heap_grow_old w os h).trans h1, h2⟩
theorem shs_ahead (g : Nat) (w : World) (q : Nat) : Shs g w (Sort.ahead w q) := fun _ h => h
theorem srt_any (l : List Int) (n0 b off cap : Nat) (w : World) (hh : Hol w b off l) (hb : n0 ≤ b) (hl : l.length ≤ 1000000000) :
    Calls Tryz.prog 231 #[.slice (some ⟨b, off, none⟩) l.length cap] w fun e w' => e = .returned (.tuple #[]) ∧ Hol w' b off (l.mergeSort (fun x y => decide (x ≤ y))) ∧ Below n0 w w' ∧ Shs b w w' := by
  by_cases h0 : l.length = 0
  · obtain rfl := List.eq_nil_of_length_eq_zero h0
    refine (Tryz.slices_Sort_int_none (some ⟨b, off, none⟩) cap w).mono ?_
    rintro e w' ⟨rfl, rfl⟩
    exact ⟨rfl, by rw [List.mergeSort_nil]; exact hh, Below.refl _ _, Shs.refl _ _⟩
  · have hlt := hh.lt (by omega)
    refine (Tryz.slices_Sort_int b off cap l w hh.holds hlt (by omega)).mono ?_
    rintro e w' ⟨rfl, n, os, rfl⟩
    refine ⟨rfl, ?_, ?_, ((shs_ahead b w n).trans (shs_put b b off _ _)).trans (shs_grow (by simpa using hlt) os)⟩
    · refine Hol.of (Sort.holds_grow _ _ _ _ _ _ (by simpa using hlt) ?_)
      exact Sort.holds_putRow (Value.int .i64) (Sort.ahead w n) b off l.toArray _ hh.holds (by simp)
    · exact ((blw_ahead n0 w n).trans (below_put hb)).trans (blw_grow (by simp; omega) os)
theorem cmp_any (l : List Int) (n0 b off cap : Nat) (w : World) (hh : Hol w b off l) (hb : n0 ≤ b) (hcap : l.length ≤ cap) (hl : l.length ≤ 1000000000) :
    Calls Tryz.prog 232 #[.slice (some ⟨b, off, none⟩) l.length cap] w (RowA n0 w (Lib.compact l) b off cap) := by
  refine (Tryz.slices_Compact_int b off cap l w hh.holds (by omega) hcap).mono ?_
  rintro e w' ⟨rfl, q, rfl⟩
  have hle := Lib.compact_length_le l
  refine ⟨rfl, ?_, (blw_ahead n0 w q).trans (below_put hb), (shs_ahead b w q).trans (shs_put b b off _ _)⟩
  have k := Hol.of (Sort.holds_putRow (Value.int .i64) (Sort.ahead w q) b off l.toArray (Lib.compact l ++ List.replicate (l.length - (Lib.compact l).length) 0).toArray hh.holds (by simp; omega))
  have k2 := k.take (Lib.compact l).length
  rwa [List.take_left] at k2
/-- A row of one's own may be written. -/
theorem own_hol {w : World} {n0 : Nat} {v : Value} {l : List Int} (h : w.ownsRow n0 3 1 v l.length (nums l)) : (v = .slice none 0 0 ∧ l = []) ∨ ∃ g cap, v = .slice (some ⟨g, 0, none⟩) l.length cap ∧ n0 ≤ g ∧ l.length ≤ cap ∧ cap ≤ maxLen ∧ Hol w g 0 l := by
  rcases h.2 with ⟨hv, h0⟩ | ⟨g, cap, cur, hv, hb, hg, hc, hm, hs, ht⟩
  · exact Or.inl ⟨hv, List.eq_nil_of_length_eq_zero h0⟩
  · refine Or.inr ⟨g, cap, hv, hb, hc, hm, fun i hi => ⟨?_, by simp [World.frozen?, hg]⟩⟩
    have := h.cells (g := g) (by rw [hv]; rfl) i (.int .i64 (l.getD i 0)) (by unfold nums; rw [List.getElem?_map, List.getElem?_eq_getElem hi, List.getD_eq_getElem?_getD, List.getElem?_eq_getElem hi]; rfl)
    have hadd : (⟨g, 0, none⟩ : Addr).add i = ⟨g, 0 + i, none⟩ := by unfold Addr.add; split <;> simp_all
    rw [hadd] at this
    exact this
theorem info_ev_int : (Tryz.prog.info? 3).map (fun i => (i.zero, i.size, i.bytes)) = some (some (.int .i64 0), 1, 8) := by kernel_rfl
theorem app_any {w : World} {n0 : Nat} {v vo : Value} {l mo : List Int} (h : w.ownsRow n0 3 1 v l.length (nums l)) (hm : Ints w vo mo) (hn : n0 ≤ w.heap.size) (hl : l.length + mo.length ≤ 1000000) :
    ∃ v' w', (∀ ty, (Builtin.append_ #[34, 34] ty #[v, vo]).run Tryz.prog w = .ok v' w') ∧ w'.ownsRow n0 3 1 v' (l ++ mo).length (nums (l ++ mo)) ∧ Below n0 w w' := by
  obtain ⟨i0, hi, hz0, hz1, hz2⟩ := info_parts info_ev_int
  obtain ⟨a, cap, rfl, hc⟩ := hm
  have own : ∀ (v' : Value) (w' : World), w'.ownsRow n0 3 1 v' (l.length + mo.length) (nums l ++ nums mo) → w'.ownsRow n0 3 1 v' (l ++ mo).length (nums (l ++ mo)) := fun v' w' q => by
    rw [List.length_append, show nums (l ++ mo) = nums l ++ nums mo by simp [nums]]; exact q
  have blw : ∀ w' : World, w.grownBy w' v.ownBlock → Below n0 w w' := fun w' q => (Below.refl n0 w).grown q hn (fun j hj => (h.lt j hj).1)
  have some_ : ∀ ad : Addr, (∀ j u, (nums mo)[j]? = some u → w.cell? (ad.add j) = some u) → ∃ (v' : Value) (w' : World), (∀ ty, (Builtin.append_ #[34, 34] ty #[v, .slice (some ad) mo.length cap]).run Tryz.prog w = .ok v' w') ∧ w'.ownsRow n0 3 1 v' (l ++ mo).length (nums (l ++ mo)) ∧ Below n0 w w' := fun ad hcell => by
    obtain ⟨v', w', hr, r1, r2, _, _⟩ := run_append_own_at (P := Tryz.prog) w n0 34 34 3 i0 (.int .i64 0) 1 8 Tryz.underlying34 hi hz0 hz1 hz2 rfl (by decide) v l.length (nums l) h ad mo.length cap (nums mo) (by simp [nums]) hcell (fun u hu => by
      unfold nums at hu
      obtain ⟨x, _, rfl⟩ := List.mem_map.1 hu
      rfl) (by unfold maxLen; omega) (by omega) hn
    exact ⟨v', w', fun ty => hr, own v' w' r1, blw w' r2⟩
  rcases hc with rfl | ⟨b, off, rfl, hc⟩
  · rcases a with _ | ad
    · refine ⟨v, w, fun ty => ?_, own v w (by simpa [nums] using h), Below.refl _ _⟩
      rcases h.2 with ⟨rfl, h0⟩ | ⟨g, cp, cur, rfl, _, hg, hnc, _, _, _⟩
      · simp [Builtin.append_, run_underlying Tryz.underlying34, sizeOf, typeInfo, hi, Builtin.lenOf, Builtin.firstCells]
      · simp [Builtin.append_, run_underlying Tryz.underlying34, sizeOf, typeInfo, hi, Builtin.lenOf, Builtin.firstCells, hnc, storeCells]
    · exact some_ ad (fun j u hu => by simp [nums] at hu)
  · refine some_ ⟨b, off, none⟩ (fun j u hu => ?_)
    unfold nums at hu
    rw [List.getElem?_map] at hu
    rcases hm : mo[j]? with _ | x
    · rw [hm] at hu; cases hu
    · rw [hm] at hu
      have hj : j < mo.length := (List.getElem?_eq_some_iff.1 hm).1
      have hadd : (⟨b, off, none⟩ : Addr).add j = ⟨b, off + j, none⟩ := by unfold Addr.add; split <;> simp_all
      rw [hadd, hc j hj, List.getD_eq_getElem?_getD, hm]
      exact hu
theorem risB_pw {l : List Int} (h : risB l = true) : l.Pairwise (· < ·) := by
  have k := risB_iff.1 h
  refine List.pairwise_iff_getElem.2 (fun i j hi hj hij => ?_)
  have aux : ∀ n, i + n + 1 < l.length → l.getD i 0 < l.getD (i + n + 1) 0 := by
    intro n
    induction n with
    | zero => intro q; exact k i q
    | succ n ih => intro q; exact Int.lt_trans (ih (by omega)) (k (i + n + 1) q)
  have := aux (j - i - 1) (by omega)
  rw [show i + (j - i - 1) + 1 = j by omega, List.getD_eq_getElem?_getD, List.getElem?_eq_getElem hi, List.getD_eq_getElem?_getD, List.getElem?_eq_getElem hj] at this
  exact this
set_option maxHeartbeats 1000000 in
theorem search_any (l : List Int) (v : Value) (x : Int) (w : World) (hv : Ints w v l) (hr : risB l = true) (hl : l.length ≤ 100) :
    Calls Tryz.prog 229 #[v, .int .i64 x] w fun e w' => (∃ k, e = .returned (.tuple #[.int .i64 k, .bool (l.contains x)])) ∧ ∃ q, w' = w.drewN q := by
  obtain ⟨a, cap, rfl, hc⟩ := hv
  rcases hc with rfl | ⟨b, off, rfl, hc⟩
  · refine (Tryz.slices_BinarySearch_int_empty a cap x w).mono ?_
    rintro e w' ⟨rfl, rfl⟩
    exact ⟨⟨_, rfl⟩, 0, rfl⟩
  · refine (Tryz.slices_BinarySearch_int b off l.length cap l x w (Nat.le_refl _) (by omega) hc (by rw [List.take_length]; exact (risB_pw hr).imp (fun q => Int.le_of_lt q))).mono ?_
    rintro e w' ⟨rfl, q, rfl⟩
    exact ⟨⟨_, by rw [List.take_length]⟩, q, rfl⟩
set_option maxRecDepth 100000 in
set_option maxHeartbeats 2000000 in
theorem out_any (e : Evt) (s : Evs) (eb fb tb : Nat) (fr t x : Int) (w : World) (hE : EBox w eb e s) (hf : w.cell? ⟨fb, 0, none⟩ = some (.int .i64 fr)) (ht : w.cell? ⟨tb, 0, none⟩ = some (.int .i64 t)) (hn : Ints w s.vn e.nots) (hr : risB e.nots = true) (hl : e.nots.length ≤ 100) :
    Calls Tryz.prog 228 #[.int .i64 x, .pointer (some ⟨eb, 0, none⟩), .pointer (some ⟨fb, 0, none⟩), .pointer (some ⟨tb, 0, none⟩)] w fun y w' => y = .returned (.bool (outB e fr t x)) ∧ ∃ q, w' = w.drewN q := by
  have c14 := hE.2.2.2.1
  have K := Lib.hid (search_any e.nots s.vn x w hn hr hl)
  have N : Hid (outB e fr t x = (e.nots.contains x || !decide (fr ≤ x ∧ x ≤ t))) := Lib.hid rfl
  generalize outB e fr t x = R at N ⊢
  generalize s.vn = vn at c14 K
  generalize e.nots.contains x = C at N K
  clear hn hr hl hE
  go_enter Tryz.func228, Tryz.ntmps228
  go_wp2_with fail
  refine K.out.mono ?_
  rintro y w1 ⟨⟨k, rfl⟩, q, rfl⟩
  have hf' : (w.drewN q).cell? ⟨fb, 0, none⟩ = some (.int .i64 fr) := hf
  have ht' : (w.drewN q).cell? ⟨tb, 0, none⟩ = some (.int .i64 t) := ht
  clear K c14 hf ht
  rcases C with _ | _
  · go_wp2_with (go_at_call 101; refine (isFrom_any _ _ _ _).mono ?_; rintro e w' ⟨rfl, rfl⟩)
    go_ret
    exact ⟨ret_bool (by rw [N.out]; simp [Bool.decide_and, Bool.not_and]), q, rfl⟩
  · go_wp2
    go_ret
    exact ⟨ret_bool (by rw [N.out]; rfl), q, rfl⟩
theorem idx_none (c1 c2 c3 : Value) (a : Option Addr) (cap : Nat) (w : World) :
    Calls Tryz.prog 251 #[.slice a 0 cap, .func (.func 228) #[] #[c1, c2, c3]] w fun e w' => e = .returned (.int .i64 (-1)) ∧ w' = w := by
  go_enter Tryz.func251, Tryz.ntmps251
  go_wp2
  go_loop [8] (fun i => i = .int .i64 0) (fun _ => 0)
  case atStart => rfl
  case round =>
    subst hrel
    go_wp2
    go_ret
    exact ⟨rfl, rfl⟩
theorem del_none (c1 c2 c3 : Value) (a : Option Addr) (cap : Nat) (w : World) :
    Calls Tryz.prog 230 #[.slice a 0 cap, .func (.func 228) #[] #[c1, c2, c3]] w fun e w' => e = .returned (.slice a 0 cap) ∧ w' = w := by
  go_enter Tryz.func230, Tryz.ntmps230
  go_wp2_with (go_at_call 251; refine (idx_none _ _ _ _ _ _).mono ?_; rintro e w' ⟨rfl, rfl⟩)
  go_ret
  exact ⟨rfl, rfl⟩
/-- A list of its own, in a block from n0 on. -/
def Wr (n0 : Nat) (w : World) (v : Value) (l : List Int) : Prop := w.ownsRow n0 3 1 v l.length (nums l)
theorem Wr.ints {n0 : Nat} {w : World} {v : Value} {l : List Int} (h : Wr n0 w v l) : Ints w v l := ow_ints h
theorem Wr.open {n0 : Nat} {w : World} {v : Value} {l : List Int} (h : Wr n0 w v l) : ∃ a cap, v = .slice a l.length cap ∧ l.length ≤ cap ∧ cap ≤ maxLen ∧ (l = [] ∨ ∃ b off, a = some ⟨b, off, none⟩ ∧ n0 ≤ b ∧ Hol w b off l) := by
  rcases own_hol h with ⟨ev, en⟩ | ⟨g, cap, ev, hg, hcap, hmax, hh⟩
  · subst en; exact ⟨none, 0, ev, Nat.le_refl _, Nat.zero_le _, Or.inl rfl⟩
  · exact ⟨_, cap, ev, hcap, hmax, Or.inr ⟨g, 0, rfl, hg, hh⟩⟩
theorem Wr.mono {n0 n1 : Nat} {w : World} {v : Value} {l : List Int} (h : Wr n0 w v l) (q : n1 ≤ n0) : Wr n1 w v l := ⟨h.1, h.2.imp id (fun ⟨g, cap, cur, h1, h2, h3⟩ => ⟨g, cap, cur, h1, Nat.le_trans q h2, h3⟩)⟩
theorem Hol.wr {n0 n1 : Nat} {w : World} {b cap : Nat} {l : List Int} (h : Hol w b 0 l) (hs : Shp w b cap) (hb : n0 ≤ b) (hn : n1 ≤ n0) (h1 : l.length ≤ cap) (h2 : cap ≤ maxLen) : Wr n1 w (.slice (some ⟨b, 0, none⟩) l.length cap) l := by
  obtain ⟨cur, e1, e2⟩ := hs
  refine ⟨by simp [nums], Or.inr ⟨b, cap, cur, rfl, by omega, e1, h1, h2, by omega, ?_⟩⟩
  apply List.ext_getElem?
  intro i
  rw [List.getElem?_take]
  rcases Nat.lt_or_ge i l.length with q | q
  · rw [if_pos (by omega)]
    have k := (h i q).1
    rw [Nat.zero_add] at k
    have k2 : cur[i]? = some (.int .i64 (l.getD i 0)) := by
      have : w.cell? ⟨b, i, none⟩ = cur[i]? := by simp [World.cell?, e1]
      rw [← this]; exact k
    rw [Array.getElem?_toList, k2]
    unfold nums
    rw [List.getElem?_map, List.getElem?_eq_getElem q, List.getD_eq_getElem?_getD, List.getElem?_eq_getElem q]; rfl
  · rw [if_neg (by omega), List.getElem?_eq_none (by unfold nums; rw [List.length_map]; exact q)]
/-- What is answered of those of Start. -/
def OfA (n0 : Nat) (W : World) (l : List Int) (x : Ending) (w' : World) : Prop := ∃ v, x = .returned (.tuple #[v, .nilIface]) ∧ w'.ownsRow n0 3 1 v l.length (nums l) ∧ Below n0 W w'
/-- What is answered of times. -/
def LocA (w : World) (l : List Int) (x : Ending) (w' : World) : Prop := ∃ v, x = .returned (.tuple #[v, .nilIface]) ∧ Wr w.heap.size w' v l ∧ Below w.heap.size w w'
theorem three_new (w : World) (e : Evt) (s : Evs) (fr t : Int) : ∃ W, W = ((w.alloc (.cells (ecells e s) 40)).alloc (.cells #[.int .i64 fr] 3)).alloc (.cells #[.int .i64 t] 3) ∧ Below w.heap.size w W ∧ W.heap.size = w.heap.size + 3 ∧ EBox W w.heap.size e s ∧ W.cell? ⟨w.heap.size + 1, 0, none⟩ = some (.int .i64 fr) ∧ W.cell? ⟨w.heap.size + 2, 0, none⟩ = some (.int .i64 t) := by
  have a0 := EBox.new w e s 40
  have b0 := (Below.refl w.heap.size w).alloc (Nat.le_refl _) (.cells (ecells e s) 40)
  obtain ⟨W1, h1⟩ : ∃ W1, W1 = w.alloc (.cells (ecells e s) 40) := ⟨_, rfl⟩
  have s1 : W1.heap.size = w.heap.size + 1 := by rw [h1]; simp
  rw [← h1] at a0 b0
  rw [← h1]
  have b1 := (Below.refl W1.heap.size W1).alloc (Nat.le_refl _) (.cells #[.int .i64 fr] 3)
  have c1 : (W1.alloc (.cells #[.int .i64 fr] 3)).cell? ⟨w.heap.size + 1, 0, none⟩ = some (.int .i64 fr) := by rw [← s1]; simp
  obtain ⟨W2, h2⟩ : ∃ W2, W2 = W1.alloc (.cells #[.int .i64 fr] 3) := ⟨_, rfl⟩
  have s2 : W2.heap.size = w.heap.size + 2 := by rw [h2]; simp [s1]
  rw [← h2] at b1 c1
  rw [← h2]
  have b2 := (Below.refl W2.heap.size W2).alloc (Nat.le_refl _) (.cells #[.int .i64 t] 3)
  have c2 : (W2.alloc (.cells #[.int .i64 t] 3)).cell? ⟨w.heap.size + 2, 0, none⟩ = some (.int .i64 t) := by rw [← s2]; simp
  refine ⟨_, rfl, (b0.trans (b1.mono (by omega))).trans (b2.mono (by omega)), by simp [s2], (a0.on b1).on b2, (b2.cell (p := ⟨w.heap.size + 1, 0, none⟩) (by show w.heap.size + 1 < _; omega)).trans c1, c2⟩
theorem EBox.onb {B : Nat} {W W' : World} {b : Nat} {e : Evt} {s : Evs} (h : EBox W b e s) (q : Below B W W') (l : b < B) : EBox W' b e s := by
  have k : ∀ (o : Nat) (v : Value), W.cell? ⟨b, o, none⟩ = some v → W'.cell? ⟨b, o, none⟩ = some v := fun o v z => (q.cell (p := ⟨b, o, none⟩) l).trans z
  obtain ⟨⟨a0, a1, a2, a3, a4⟩, ⟨b0, b1, b2, b3, b4, b5, b6, b7⟩, c0, c1, c2, c3⟩ := h
  exact ⟨⟨k _ _ a0, k _ _ a1, k _ _ a2, k _ _ a3, k _ _ a4⟩, ⟨k _ _ b0, k _ _ b1, k _ _ b2, k _ _ b3, k _ _ b4, k _ _ b5, k _ _ b6, k _ _ b7⟩, k _ _ c0, k _ _ c1, k _ _ c2, k _ _ c3⟩
theorem own_shp {w : World} {n0 g cap n : Nat} {xs : List Value} (h : w.ownsRow n0 3 1 (.slice (some ⟨g, 0, none⟩) n cap) n xs) : Shp w g cap := by
  rcases h.2 with ⟨q, _⟩ | ⟨g', cap', cur, q, _, hg, _, _, hs, _⟩
  · cases q
  · obtain ⟨rfl, rfl⟩ : g = g' ∧ cap = cap' := by simpa using q
    exact ⟨cur, hg, by omega⟩
theorem own_hol2 {w : World} {n0 : Nat} {v : Value} {l : List Int} (h : w.ownsRow n0 3 1 v l.length (nums l)) : (∃ a cap, v = .slice a 0 cap ∧ l = [] ∧ cap ≤ maxLen) ∨ ∃ g cap, v = .slice (some ⟨g, 0, none⟩) l.length cap ∧ 0 < l.length ∧ n0 ≤ g ∧ l.length ≤ cap ∧ cap ≤ maxLen ∧ Hol w g 0 l := by
  rcases own_hol h with ⟨ev, en⟩ | ⟨g, cap, ev, hg, hcap, hmax, hh⟩
  · exact Or.inl ⟨none, 0, ev, en, Nat.zero_le _⟩
  · rcases Nat.eq_zero_or_pos l.length with z | z
    · exact Or.inl ⟨some ⟨g, 0, none⟩, cap, by rw [ev, z], List.eq_nil_of_length_eq_zero z, hmax⟩
    · exact Or.inr ⟨g, cap, ev, z, hg, hcap, hmax, hh⟩
end Go.Proofs.YthdohcjingfpoaaGreatDoor
namespace Go.Proofs.YthdohcjingfpoaaGreatDoor
open Go.RowKit Cal Txt

/-- An append whose end is known. -/
theorem wpList_app {P : Program} {w : World} {ops : Array Oper} {rest : List Oper} {o : Oper} {a : Act} {Q : Exit → Act → World → Prop} (hgd : o.guard = none) (s x : Operand) (t : TypeId)
    (ho : o.op = .call { callee := .builtin .append, args := #[s, x], argTypes := #[t, t] }) (v vo v' : Value) (w' : World) (hs : a.eval s = v) (hx : a.eval x = vo)
    (hr : ∀ ty, (Builtin.append_ #[t, t] ty #[v, vo]).run P w = .ok v' w') (h : wpList P ops Q rest (a.put o.dst v') w') : wpList P ops Q (o :: rest) a w := by
  refine wpList_plain hgd fun K hK => ?_
  unfold Oper.wp execOp
  simp only [ho, resolve, invoke, builtin, Sem.run_bind, Sem.run_pure, Result.andThen_ok, List.map_toArray, List.map_cons, List.map_nil, hs, hx, hr]
  exact hK _ _ h
set_option maxRecDepth 100000 in
set_option maxHeartbeats 4000000 in
theorem between_of (e : Evt) (s : Evs) (fr t : Int) (l : List Int) (w : World) (hv : EvB w e s) (hr : risB e.nots = true) (hn : e.nots.length ≤ 100) (hm : e.more.length ≤ 100) (hl : l.length ≤ 200000)
    (hK : ∀ W, Below w.heap.size w W → Calls Tryz.prog 227 #[.agg (ecells e s), .int .i64 fr, .int .i64 t] W (OfA W.heap.size W l)) :
    Calls Tryz.prog 207 #[.agg (ecells e s), .int .i64 fr, .int .i64 t] w (LocA w (evL l e fr t)) := by
  obtain ⟨W0, hW, B0, z0, R0, cf, ct⟩ := three_new w e s fr t
  have HB0 := Lib.hid B0
  have HR0 := Lib.hid R0
  have HCF := Lib.hid cf
  have HCT := Lib.hid ct
  have K := Lib.hid (hK W0 B0)
  have HV := Lib.hid (fun W (q : Below w.heap.size w W) => hv.on q)
  have HN := Lib.hid hr
  have EL : Hid (evL l e fr t = Lib.compact (((l ++ e.more).filter (fun x => !outB e fr t x)).mergeSort (fun x y => decide (x ≤ y)))) := Lib.hid rfl
  generalize evL l e fr t = RES at EL ⊢
  clear hK hv hr B0 R0 cf ct
  have hW' := Lib.hid hW
  clear hW
  go_enter Tryz.func207, Tryz.ntmps207
  go_wp2_with fail
  rw [← hW'.out]
  clear hW'
  refine K.out.mono ?_
  rintro x w1 ⟨v1, rfl, ho, hb⟩
  have HB1 := Lib.hid hb
  have HO := Lib.hid ho
  clear hb ho K
  have c13 := (HR0.out.on HB1.out).2.2.1
  have sz1 : W0.heap.size ≤ w1.heap.size := HB1.out.size
  have Bw1 := Lib.hid (HB0.out.trans (HB1.out.mono (by omega)))
  obtain ⟨v2, w2, happ, ho2, hb2⟩ := app_any (vo := s.vo) (mo := e.more) HO.out (HV.out _ Bw1.out).2.2.2.2.1 sz1 (by omega)
  replace happ := Lib.hid happ
  have HO2 := Lib.hid ho2
  have HB2 := Lib.hid (HB1.out.trans hb2)
  clear ho2 hb2
  have CL : Hid (Cls W0.heap.size w2 (.pointer (some ⟨w.heap.size, 0, none⟩)) (.pointer (some ⟨w.heap.size + 1, 0, none⟩)) (.pointer (some ⟨w.heap.size + 2, 0, none⟩)) (outB e fr t)) := Lib.hid (fun x W q => by
    have q2 := HB2.out.trans q
    exact out_any e s _ _ _ fr t x W (HR0.out.onb q2 (by omega)) ((q2.cell (p := ⟨w.heap.size + 1, 0, none⟩) (by show w.heap.size + 1 < _; omega)).trans HCF.out) ((q2.cell (p := ⟨w.heap.size + 2, 0, none⟩) (by show w.heap.size + 2 < _; omega)).trans HCT.out) (HV.out _ (HB0.out.trans (q2.mono (by omega)))).2.2.2.2.2.1 HN.out hn)
  have hlt : w.heap.size < w1.heap.size := by omega
  rcases own_hol2 HO2.out with ⟨a, cap, ev, en, hmax⟩ | ⟨g, cap, ev, hpos, hg, hcap, hmax, hh⟩
  · subst ev
    have ER : Hid (RES = []) := Lib.hid (by rw [EL.out, en]; simp [Lib.compact, Lib.compactUpTo])
    have OW := Lib.hid HO2.out
    rw [en] at OW
    clear en CL HO2 HO
    as_aux_lemma =>
      go_wp2_with (at_builtin; refine wpList_app rfl _ _ 34 rfl _ _ _ _ rfl rfl happ.out ?_; clear c13 happ)
      refine (del_none _ _ _ _ _ _).mono ?_
      rintro x w3 ⟨rfl, hw⟩
      replace hw := hw.symm
      subst hw
      go_wp2_with fail
      refine (Tryz.slices_Sort_int_none _ _ _).mono ?_
      rintro x w3 ⟨rfl, hw⟩
      replace hw := hw.symm
      subst hw
      go_wp2_with fail
      refine (Tryz.slices_Compact_int_empty _ _ _).mono ?_
      rintro x w3 ⟨rfl, hw⟩
      replace hw := hw.symm
      subst hw
      go_wp2
      go_ret2
      refine ⟨.slice a 0 cap, rfl, ?_, HB0.out.trans (HB2.out.mono (by omega))⟩
      rw [ER.out]
      exact Wr.mono (n0 := W0.heap.size) OW.out (by omega)
  · subst ev
    have HHx := Lib.hid hh
    have SP := Lib.hid (own_shp HO2.out)
    have HG := Lib.hid hg
    have HM := Lib.hid hmax
    have LL : (l ++ e.more).length ≤ 200100 := by rw [List.length_append]; omega
    have KD := Lib.hid (del_any _ _ _ (outB e fr t) (l ++ e.more) W0.heap.size g 0 cap w2 CL.out hh hg hpos hcap (by omega))
    generalize l ++ e.more = ys at EL KD LL happ HHx hcap hpos
    have HP := Lib.hid hpos
    clear HO2 HO CL hh hg hmax hpos
    as_aux_lemma =>
      go_wp2_with (at_builtin; refine wpList_app rfl _ _ 34 rfl _ _ _ _ rfl rfl happ.out ?_; clear c13 happ)
      refine KD.out.mono ?_
      rintro x w3 ⟨rfl, hh3, hb3, hs3⟩
      have LF : (ys.filter (fun x => !outB e fr t x)).length ≤ ys.length := List.length_filter_le _ _
      generalize ys.filter (fun x => !outB e fr t x) = zs at EL LF hh3 ⊢
      have KS := Lib.hid (srt_any zs W0.heap.size g 0 cap w3 hh3 HG.out (by omega))
      have HB3 := Lib.hid (HB2.out.trans hb3)
      have SP3 := Lib.hid (hs3 _ SP.out)
      clear hh3 hb3 KD hs3 SP
      go_wp2_with fail
      refine KS.out.mono ?_
      rintro x w4 ⟨rfl, hh4, hb4, hs4⟩
      have LS : (zs.mergeSort (fun x y => decide (x ≤ y))).length = zs.length := List.length_mergeSort _
      generalize zs.mergeSort (fun x y => decide (x ≤ y)) = us at EL LS hh4
      have KC := cmp_any us W0.heap.size g 0 cap w4 hh4 HG.out (by omega) (by omega)
      rw [LS, ← EL.out] at KC
      have LC : RES.length ≤ cap := by rw [EL.out]; have := Lib.compact_length_le us; omega
      have HKC := Lib.hid KC
      have HLC := Lib.hid LC
      have HB4 := Lib.hid (HB3.out.trans hb4)
      have SP4 := Lib.hid (hs4 _ SP3.out)
      clear hh4 hb4 KS KC LC EL HB3 hs4 SP3
      go_wp2_with fail
      refine HKC.out.mono ?_
      rintro x w5 ⟨rfl, hh5, hb5, hs5⟩
      have HH5 := Lib.hid hh5
      have HB5 := Lib.hid (HB4.out.trans hb5)
      have SP5 := Lib.hid (hs5 _ SP4.out)
      clear hh5 hb5 hs5 SP4
      go_wp2
      go_ret2
      exact ⟨_, rfl, HH5.out.wr SP5.out HG.out (by omega) HLC.out HM.out, HB0.out.trans (HB5.out.mono (by omega))⟩
end Go.Proofs.YthdohcjingfpoaaGreatDoor
