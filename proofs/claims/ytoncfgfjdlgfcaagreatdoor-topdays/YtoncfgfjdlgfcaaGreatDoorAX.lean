/-
  What is proved here: plain words on rings; what package alarm's behind and reach, and times.All, answer of an event that is right (contracts over the translation).
  What is proved here: what alarm.ringsOf answers of an event that is right and one of its Times (a contract over the translation).
  What is proved here: rows of rings that may be written; how far deleting has come.
  What is proved here: what slices.IndexFunc and slices.DeleteFunc answer at rings and the closure of alarm.Rings (contracts over the translation).
  What is proved here: what cmp.Compare answers at texts, cmp.Or at a row of numbers, and alarm.Order at two rings (contracts over the translation).
  What is proved here: what slices.SortFunc answers at rings of one event, by alarm.Order (a contract over the translation).
  What is proved here: plain facts on the rings of an event: which there are, that no two are the same, and in which order.
  What is proved here: what alarm.within answers (a contract over the translation).
  What is proved here: what alarm.Rings answers (a contract over the translation).
  What is proved here: what chimesame's Rings answers of two lists of one event's rings that are the same (a contract over the translation).
-/
import Derived.Test.YtoncfgfjdlgfcaaGreatDoorTiApp
import Derived.Lib.QuietBelow
import Derived.Deep.RegionHeld3
import Derived.Sort.Grow
import Derived.Laws.Cover1
import Derived.Test.YtoncfgfjdlgfcaaGreatDoorShelfR
import Derived.Shelf.SlSortCmp.WholeK
import Derived.Shelf.SlSortCmp.NoneTotal
import Derived.BigQuiet
namespace Go.Proofs.YtoncfgfjdlgfcaaGreatDoor
open Go.RowKit Cal Txt

/-- An alarm: Offset, End, Repeat, Between. -/
abbrev Al := Int × Bool × Int × Int
/-- A ring of one event: At, Which, Alarm, Turn. -/
abbrev Rg := Int × Int × Int × Int
def encR (nm : ByteArray) (x : Rg) : List Value := [.int .i64 x.1, .string nm, .int .i64 x.2.1, .int .i64 x.2.2.1, .int .i64 x.2.2.2]
/-- How many minutes behind From an alarm rings first. -/
def bhd (n : Int) (x : Al) : Int := if x.2.1 = true then n + x.1 else x.1
def lst (x : Al) : Int := x.2.2.1 * x.2.2.2
def leA (n : Int) (l : List Al) : Int := l.foldl (fun m x => min m (bhd n x)) 0
def moA (n : Int) (l : List Al) : Int := l.foldl (fun m x => max m (bhd n x + lst x)) 0
theorem amF_all : ∀ {l : List Al}, amF l = 0 → ∀ x ∈ l, alF x = 0
  | [], _, x, h => by cases h
  | y :: l, h, x, hx => by
    unfold amF at h
    by_cases q : alF y = 0
    · rw [if_pos q] at h
      rcases List.mem_cons.1 hx with rfl | hx
      · exact q
      · exact amF_all h x hx
    · rw [if_neg q] at h; exact absurd h q
theorem evF_alm {e : Evt} (h : evF e = 0) : e.alm.length ≤ 4 ∧ ∀ x ∈ e.alm, alF x = 0 := by
  unfold evF at h
  split at h
  · cases h
  split at h
  · cases h
  split at h
  · rename_i q; exact absurd h q
  split at h
  · rename_i q; exact absurd h q
  rename_i q1 q2 q3 q4
  refine ⟨?_, amF_all h⟩
  have h4 : liF e = 0 := Decidable.byContradiction q4
  unfold liF at h4
  split at h4
  · cases h4
  rename_i q
  unfold full at q
  simp at q
  omega
/-- The numbers of an alarm that is right. -/
theorem alF_in {x : Al} (h : alF x = 0) : (-100000 ≤ x.1 ∧ x.1 ≤ 100000) ∧ (0 ≤ x.2.2.1 ∧ x.2.2.1 ≤ 5) ∧ (0 ≤ x.2.2.2 ∧ x.2.2.2 ≤ 10000) ∧ (¬ x.2.2.1 = 0 → 1 ≤ x.2.2.2) := by
  unfold alF at h
  split at h
  · rename_i q
    obtain ⟨q1, q2, q3⟩ := q
    refine ⟨q1, q2, ?_, ?_⟩ <;> omega
  · cases h
theorem lst_in {x : Al} (h : alF x = 0) : 0 ≤ lst x ∧ lst x ≤ 50000 := by
  obtain ⟨_, ⟨a1, a2⟩, ⟨b1, b2⟩, _⟩ := alF_in h
  unfold lst
  rcases (by omega : x.2.2.1 = 0 ∨ x.2.2.1 = 1 ∨ x.2.2.1 = 2 ∨ x.2.2.1 = 3 ∨ x.2.2.1 = 4 ∨ x.2.2.1 = 5) with q | q | q | q | q | q <;> rw [q] <;> omega
theorem bhd_in {n : Int} {x : Al} (h : alF x = 0) (h1 : 0 ≤ n) (h2 : n ≤ 100000) : -100000 ≤ bhd n x ∧ bhd n x ≤ 200000 := by
  have := (alF_in h).1
  unfold bhd
  split <;> omega
/-- How far at most. -/
theorem foldA {n : Int} (h1 : 0 ≤ n) (h2 : n ≤ 100000) : ∀ (l : List Al) (m M : Int), (∀ x ∈ l, alF x = 0) → (-100000 ≤ m ∧ m ≤ 0) → (0 ≤ M ∧ M ≤ 250000) →
    (-100000 ≤ l.foldl (fun m x => min m (bhd n x)) m ∧ l.foldl (fun m x => min m (bhd n x)) m ≤ m) ∧ (M ≤ l.foldl (fun m x => max m (bhd n x + lst x)) M ∧ l.foldl (fun m x => max m (bhd n x + lst x)) M ≤ 250000) ∧
    ∀ x ∈ l, l.foldl (fun m x => min m (bhd n x)) m ≤ bhd n x ∧ bhd n x + lst x ≤ l.foldl (fun m x => max m (bhd n x + lst x)) M
  | [], m, M, _, hm, hM => ⟨⟨hm.1, Int.le_refl _⟩, ⟨Int.le_refl _, hM.2⟩, fun x hx => by cases hx⟩
  | y :: l, m, M, hl, hm, hM => by
    have hy := hl y List.mem_cons_self
    have b1 := bhd_in hy h1 h2
    have b2 := lst_in hy
    obtain ⟨p1, p2, p3⟩ := foldA h1 h2 l (min m (bhd n y)) (max M (bhd n y + lst y)) (fun x hx => hl x (List.mem_cons_of_mem _ hx)) (by omega) (by omega)
    simp only [List.foldl_cons]
    refine ⟨by omega, by omega, fun x hx => ?_⟩
    rcases List.mem_cons.1 hx with rfl | hx
    · omega
    · exact p3 x hx
theorem rea_in {e : Evt} (h : evF e = 0) : (-100000 ≤ leA e.len e.alm ∧ leA e.len e.alm ≤ 0) ∧ (0 ≤ moA e.len e.alm ∧ moA e.len e.alm ≤ 250000) ∧ ∀ x ∈ e.alm, leA e.len e.alm ≤ bhd e.len x ∧ bhd e.len x + lst x ≤ moA e.len e.alm := by
  have l1 := (evF_lens h).2.2.2.2.2
  exact foldA l1.1 l1.2 e.alm 0 0 (evF_alm h).2 (by omega) (by omega)
theorem fold_snoc {β : Type} (f : β → Al → β) (b : β) (l : List Al) (k : Nat) (h : k < l.length) : (l.take (k + 1)).foldl f b = f ((l.take k).foldl f b) (l.getD k (0, false, 0, 0)) := by
  rw [List.take_succ_eq_append_getElem h, List.foldl_append, List.getD_eq_getElem?_getD, List.getElem?_eq_getElem h]
  rfl
set_option maxRecDepth 100000 in
set_option maxHeartbeats 2000000 in
theorem alBeh_any (e : Evt) (s : Evs) (o : Int) (b : Bool) (r t : Int) (w : World) (h1 : 0 ≤ e.len) (h2 : e.len ≤ 100000) (h3 : -100000 ≤ o) (h4 : o ≤ 100000) :
    Calls Tryz.prog 161 #[.agg (ecells e s), .agg #[.int .i64 o, .bool b, .int .i64 r, .int .i64 t]] w fun x w' => x = .returned (.int .i64 (bhd e.len (o, b, r, t))) ∧ Below w.heap.size w w' := by
  have R0 := EBox.new w e s 33
  have b1 : Below w.heap.size w (w.alloc (.cells (ecells e s) 33)) := (Below.refl _ _).alloc (Nat.le_refl _) _
  have z1 : (w.alloc (.cells (ecells e s) 33)).heap.size = w.heap.size + 1 := World.size_alloc _ _
  have b2 : Below (w.alloc (.cells (ecells e s) 33)).heap.size (w.alloc (.cells (ecells e s) 33)) ((w.alloc (.cells (ecells e s) 33)).alloc (.cells #[.int .i64 o, .bool b, .int .i64 r, .int .i64 t] 115)) := (Below.refl _ _).alloc (Nat.le_refl _) _
  have R1 := R0.on b2
  have C : ((w.alloc (.cells (ecells e s) 33)).alloc (.cells #[.int .i64 o, .bool b, .int .i64 r, .int .i64 t] 115)).cell? ⟨w.heap.size + 1, 0, none⟩ = some (.int .i64 o) ∧ ((w.alloc (.cells (ecells e s) 33)).alloc (.cells #[.int .i64 o, .bool b, .int .i64 r, .int .i64 t] 115)).cell? ⟨w.heap.size + 1, 1, none⟩ = some (.bool b) := by
    rw [← z1]
    constructor <;> simp
  have B := Lib.hid (b1.trans (b2.mono b1.size))
  obtain ⟨W0, hW⟩ : ∃ W0, W0 = (w.alloc (.cells (ecells e s) 33)).alloc (.cells #[.int .i64 o, .bool b, .int .i64 r, .int .i64 t] 115) := ⟨_, rfl⟩
  rw [← hW] at R1 C B
  have HW := Lib.hid hW
  have c3 := R1.1.2.2.2.1
  have cl := R1.lt
  obtain ⟨a0, a1⟩ := C
  have al := ecell_in a0
  have NT : Hid (bhd e.len (o, true, r, t) = e.len + o) := Lib.hid rfl
  have NF : Hid (bhd e.len (o, false, r, t) = o) := Lib.hid rfl
  clear R0 b1 z1 b2 R1 hW
  go_enter Tryz.func161, Tryz.ntmps161
  go_upto_region 1 with fail
  rw [← HW.out]
  clear HW
  rcases b with _ | _
  · go_wp2
    go_ret
    exact ⟨by rw [NF.out]; rfl, B.out⟩
  · go_wp2
    go_ret
    exact ⟨by rw [NT.out]; rfl, B.out⟩
/-- An alarm in a block. -/
def ABx (W : World) (b : Nat) (x : Al) : Prop := W.cell? ⟨b, 0, none⟩ = some (.int .i64 x.1) ∧ W.cell? ⟨b, 1, none⟩ = some (.bool x.2.1) ∧ W.cell? ⟨b, 2, none⟩ = some (.int .i64 x.2.2.1) ∧ W.cell? ⟨b, 3, none⟩ = some (.int .i64 x.2.2.2)
theorem ABx.on {W W' : World} {b : Nat} {x : Al} (h : ABx W b x) (q : Below W.heap.size W W') : ABx W' b x := by
  have l := ecell_in h.1
  exact ⟨(q.cell (p := ⟨b, 0, none⟩) l).trans h.1, (q.cell (p := ⟨b, 1, none⟩) l).trans h.2.1, (q.cell (p := ⟨b, 2, none⟩) l).trans h.2.2.1, (q.cell (p := ⟨b, 3, none⟩) l).trans h.2.2.2⟩
theorem ABx.new (W : World) (x : Al) (t : TypeId) : ABx (W.alloc (.cells #[.int .i64 x.1, .bool x.2.1, .int .i64 x.2.2.1, .int .i64 x.2.2.2] t)) W.heap.size x := by
  refine ⟨?_, ?_, ?_, ?_⟩ <;> simp
theorem alm_mem {l : List Al} {k : Nat} (h : k < l.length) : l.getD k (0, false, 0, 0) ∈ l := by rw [List.getD_eq_getElem?_getD, List.getElem?_eq_getElem h]; exact List.getElem_mem h
theorem al_take {l : List Al} {k : Nat} (h : ∀ x ∈ l, alF x = 0) : ∀ x ∈ l.take k, alF x = 0 := fun x hx => h x (List.mem_of_mem_take hx)
set_option maxRecDepth 100000 in
set_option maxHeartbeats 4000000 in
theorem reach_any (e : Evt) (s : Evs) (w : World) (hv : EvB w e s) (h : evF e = 0) :
    Calls Tryz.prog 106 #[.agg (ecells e s)] w fun x w' => x = .returned (.tuple #[.int .i64 (leA e.len e.alm), .int .i64 (moA e.len e.alm)]) ∧ Below w.heap.size w w' := by
  obtain ⟨h1, h2⟩ := (evF_lens h).2.2.2.2.2
  obtain ⟨h3, h4⟩ := evF_alm h
  have R0 := EBox.new w e s 33
  have b1 : Below w.heap.size w (w.alloc (.cells (ecells e s) 33)) := (Below.refl _ _).alloc (Nat.le_refl _) _
  have VA := (hv.on b1).2.2.2.2.2.2.2
  obtain ⟨W0, hW⟩ : ∃ W0, W0 = w.alloc (.cells (ecells e s) 33) := ⟨_, rfl⟩
  rw [← hW] at R0 b1 VA
  have HW := Lib.hid hW
  have HB := Lib.hid b1
  have HE := Lib.hid R0
  have H4 := Lib.hid h4
  have c16 := R0.2.2.2.2.2
  obtain ⟨va, vc, ev, hc⟩ := VA
  rw [ev] at c16
  have HC := Lib.hid hc
  have cl := R0.lt
  have FS := Lib.hid (fun k (q : k < e.alm.length) => fold_snoc (fun m x => min m (bhd e.len x)) 0 e.alm k q)
  have FM := Lib.hid (fun k (q : k < e.alm.length) => fold_snoc (fun m x => max m (bhd e.len x + lst x)) 0 e.alm k q)
  have FB := Lib.hid (fun k => foldA h1 h2 (e.alm.take k) 0 0 (al_take h4) (by omega) (by omega))
  have EQ1 : Hid (leA e.len e.alm = (e.alm.take e.alm.length).foldl (fun m x => min m (bhd e.len x)) 0) := Lib.hid (by rw [List.take_length]; rfl)
  have EQ2 : Hid (moA e.len e.alm = (e.alm.take e.alm.length).foldl (fun m x => max m (bhd e.len x + lst x)) 0) := Lib.hid (by rw [List.take_length]; rfl)
  generalize leA e.len e.alm = LL at EQ1 ⊢
  generalize moA e.len e.alm = MM at EQ2 ⊢
  clear hW hc R0 b1 h h4 hv ev
  go_enter Tryz.func106, Tryz.ntmps106
  go_upto_region 1 with fail
  rw [← HW.out]
  clear HW
  go_wp2_with fail
  clear c16 cl
  go_loopw [4, 5, 7, 8, 12] (fun av bv _ _ iv wr => ∃ k : Nat, k ≤ e.alm.length ∧ iv = .int .i64 k ∧ av = .int .i64 ((e.alm.take k).foldl (fun m x => min m (bhd e.len x)) 0) ∧ bv = .int .i64 ((e.alm.take k).foldl (fun m x => max m (bhd e.len x + lst x)) 0) ∧ Below W0.heap.size W0 wr) (fun _ _ _ _ iv _ => e.alm.length - (intOf iv).toNat)
  case atStart => exact ⟨0, Nat.zero_le _, rfl, rfl, rfl, Below.refl _ _⟩
  case round =>
    obtain ⟨k, hk, rfl, rfl, rfl, hB⟩ := hrel
    have HBr := Lib.hid hB
    by_cases hlt : k < e.alm.length
    · rcases HC.out with hc | ⟨lb, lo, rfl, hc⟩
      · rw [hc] at hlt; simp at hlt
      obtain ⟨k0, k1, k2, k3⟩ := hc k hlt
      have ax := H4.out _ (alm_mem hlt)
      have S1 := Lib.hid (FS.out k hlt)
      have S2 := Lib.hid (FM.out k hlt)
      obtain ⟨⟨f1, f2⟩, ⟨f3, f4⟩, _⟩ := FB.out k
      generalize e.alm.getD k (0, false, 0, 0) = X at k0 k1 k2 k3 ax S1 S2
      obtain ⟨x1, x2, x3, x4⟩ := X
      dsimp only at k0 k1 k2 k3
      obtain ⟨⟨o1, o2⟩, ⟨r1, r2⟩, ⟨p1, p2⟩, _⟩ := alF_in ax
      dsimp only at o1 o2 r1 r2 p1 p2
      have bi := bhd_in ax h1 h2
      have li := lst_in ax
      generalize (e.alm.take k).foldl (fun m x => min m (bhd e.len x)) 0 = AV at S1 f1 f2
      generalize (e.alm.take k).foldl (fun m x => max m (bhd e.len x + lst x)) 0 = BV at S2 f3 f4
      have q0 := (hB.cell (p := ⟨lb, lo + k * 4, none⟩) (ecell_in k0)).trans k0
      have q1 := (hB.cell (p := ⟨lb, lo + k * 4 + 1, none⟩) (ecell_in k0)).trans k1
      have q2 := (hB.cell (p := ⟨lb, lo + k * 4 + 2, none⟩) (ecell_in k0)).trans k2
      have q3 := (hB.cell (p := ⟨lb, lo + k * 4 + 3, none⟩) (ecell_in k0)).trans k3
      have lb2 := ecell_in q0
      have b3 : Below wr.heap.size wr (wr.alloc (.cells #[.int .i64 x1, .bool x2, .int .i64 x3, .int .i64 x4] 115)) := (Below.refl _ _).alloc (Nat.le_refl _) _
      have A3 := ABx.new wr (x1, x2, x3, x4) 115
      dsimp only at A3
      obtain ⟨W3, hW3⟩ : ∃ W3, W3 = wr.alloc (.cells #[.int .i64 x1, .bool x2, .int .i64 x3, .int .i64 x4] 115) := ⟨_, rfl⟩
      rw [← hW3] at b3 A3
      have HW3 := Lib.hid hW3
      have BW := Lib.hid (HBr.out.trans (b3.mono HBr.out.size))
      have E3 := Lib.hid (HE.out.on BW.out)
      have HA3 := Lib.hid A3
      have K := Lib.hid (alBeh_any e s x1 x2 x3 x4 W3 h1 h2 o1 o2)
      clear hc k0 k1 k2 k3 hB b3 A3 hW3 ax HBr
      go_upto_region 5 with fail
      rw [← HW3.out]
      clear HW3 q0 q1 q2 q3 lb2
      obtain ⟨a0, a1, a2, a3⟩ := HA3.out
      have al := ecell_in a0
      dsimp only at a0 a1 a2 a3
      go_wp2_with (refine ev_load ?h1 (.tmp 1) ?h2 w.heap.size e s ?h3 E3.out ?h4; (case h1 => rfl); (case h2 => rfl); (case h3 => rfl))
      clear a0 a1 a2 a3 al
      refine K.out.mono ?_
      rintro y w4 ⟨rfl, hb⟩
      obtain ⟨a0, a1, a2, a3⟩ := HA3.out.on hb
      have al := ecell_in a0
      dsimp only at a0 a1 a2 a3
      have Q4 := Lib.hid (BW.out.trans (hb.mono BW.out.size))
      have lx : lst (x1, x2, x3, x4) = x3 * x4 := rfl
      rw [lx] at li
      generalize bhd e.len (x1, x2, x3, x4) = BH at S1 S2 bi
      obtain ⟨LS, hLS⟩ : ∃ LS, LS = x3 * x4 := ⟨_, rfl⟩
      rw [lx, ← hLS] at S2
      rw [← hLS] at li
      obtain ⟨A2, hA2⟩ : ∃ A2, A2 = (e.alm.take (k + 1)).foldl (fun m x => min m (bhd e.len x)) 0 := ⟨_, rfl⟩
      obtain ⟨B2, hB2⟩ : ∃ B2, B2 = (e.alm.take (k + 1)).foldl (fun m x => max m (bhd e.len x + lst x)) 0 := ⟨_, rfl⟩
      have m1 : min AV BH = A2 := by rw [hA2]; exact S1.out.symm
      have m2 : max BV (BH + LS) = B2 := by rw [hB2]; exact S2.out.symm
      have m3 : x3 * x4 = LS := hLS.symm
      have HA2 := Lib.hid hA2
      have HB2 := Lib.hid hB2
      obtain ⟨bi1, bi2⟩ := bi
      obtain ⟨li1, li2⟩ := li
      clear hA2 hB2 hLS lx S1 S2 hb K
      go_wp2
      go_roundw
      case rel => exact ⟨k + 1, by omega, by go_num, by rw [HA2.out], by rw [HB2.out], Q4.out⟩
      case measure => simp [intOf]; omega
    · have ek : k = e.alm.length := by omega
      have E1 := Lib.hid EQ1.out
      rw [← ek] at E1
      have E2 := Lib.hid EQ2.out
      rw [← ek] at E2
      have ZZ := Lib.hid (HB.out.trans (hB.mono HB.out.size))
      go_wp2
      go_ret2
      exact ⟨by rw [E1.out, E2.out]; rfl, ZZ.out⟩
/-- What All tells. -/
def taL (a : Int) (l : List (Int × Int)) (e : Evt) (fr t : Int) : List Tm := if ezF a l e = 0 then tmA a l e fr t else []
set_option maxRecDepth 100000 in
set_option maxHeartbeats 4000000 in
theorem tAll_any (a : Int) (l : List (Int × Int)) (v : Value) (e : Evt) (s : Evs) (fr t : Int) (w : World) (hz : ZoneIn w v a l) (hv : EvB w e s) (hT : Tab w) :
    Calls Tryz.prog 107 #[v, .agg (ecells e s), .int .i64 fr, .int .i64 t] w (TbA w (taL a l e fr t) (ezF a l e)) := by
  have HZ := Lib.hid (fun W (q : Below w.heap.size w W) => hz.on q)
  obtain ⟨sa, sc, rfl⟩ := hz.form
  obtain ⟨W0, hW, B0, _, Z0, R0⟩ := two_boxes w a l sa sc e s
  have HW := Lib.hid hW
  have HB := Lib.hid B0
  have HE := Lib.hid R0
  have HX := Lib.hid Z0
  have KC := Lib.hid (tcheck_any a l _ e s W0 (HZ.out _ B0) (hv.on B0))
  have KA := Lib.hid (fun (h : ezF a l e = 0) W (q : Below w.heap.size w W) => tall_far a l _ e s fr t W (HZ.out _ q) (ez_good h).2 (hv.on q) (hT.below q) (ez_good h).1)
  have L0 : Hid (¬ ezF a l e = 0 → taL a l e fr t = []) := Lib.hid (fun q => if_neg q)
  have L1 : Hid (ezF a l e = 0 → taL a l e fr t = tmA a l e fr t) := Lib.hid (fun q => if_pos q)
  generalize taL a l e fr t = L at L0 L1 ⊢
  generalize tmA a l e fr t = RES at L1 KA
  generalize ezF a l e = EF at L0 L1 KC KA ⊢
  clear hz hv hT hW B0 Z0 R0
  go_enter Tryz.func107, Tryz.ntmps107
  go_upto_region 1 with fail
  rw [← HW.out]
  clear HW
  obtain ⟨z0, z1⟩ := HX.out
  have zl := ecell_in z0
  go_wp2_with (refine ev_load ?h1 (.tmp 5) ?h2 (w.heap.size + 1) e s ?h3 HE.out ?h4; (case h1 => rfl); (case h2 => rfl); (case h3 => rfl))
  clear z0 z1 zl
  refine KC.out.mono ?_
  rintro y w1 ⟨rfl, hb⟩
  have B1 := Lib.hid (HB.out.trans (hb.mono HB.out.size))
  have E1 := Lib.hid (HE.out.on hb)
  have X1 := Lib.hid (HX.out.on hb)
  clear hb KC HB HE HX
  by_cases hq : EF = 0
  case neg =>
    have N : Hid (L = []) := Lib.hid (L0.out hq)
    have HQ := Lib.hid hq
    clear L0 L1 KA
    go_upto_region 2 with fail
    rw [efault_ne HQ.out]
    clear hq
    go_wp2
    go_ret2
    exact ⟨.slice none 0 0, by rw [efault_ne HQ.out]; rfl, by rw [N.out]; exact nil_tms _, B1.out, by rw [N.out]; exact World.ownsRow_nil _ _ _ _⟩
  have K := Lib.hid (KA.out hq _ B1.out)
  have N := Lib.hid (L1.out hq)
  subst hq
  rw [efault_0]
  clear L0 L1 KA
  obtain ⟨z0, z1⟩ := X1.out
  have zl := ecell_in z0
  go_wp2_with (refine ev_load ?i1 (.tmp 5) ?i2 (w.heap.size + 1) e s ?i3 E1.out ?i4; (case i1 => rfl); (case i2 => rfl); (case i3 => rfl))
  clear z0 z1 zl
  refine K.out.mono ?_
  rintro x w2 ⟨u, rfl, ht, hb, ow⟩
  have B2 := Lib.hid (B1.out.trans (hb.mono B1.out.size))
  have HTM := Lib.hid ht
  have OW := Lib.hid (own_mono ow B1.out.size)
  obtain ⟨a9, c9, rfl, _⟩ := ht
  clear hb K B1 E1 X1 ow
  go_wp2
  go_ret2
  exact ⟨.slice a9 RES.length c9, by rw [efault_0]; rfl, by rw [N.out]; exact HTM.out, B2.out, by rw [N.out]; exact OW.out⟩
end Go.Proofs.YtoncfgfjdlgfcaaGreatDoor
namespace Go.Proofs.YtoncfgfjdlgfcaaGreatDoor
open Go.RowKit Cal Txt

theorem info_rg : (Tryz.prog.info? 73).map (fun i => (i.zero, i.size, i.bytes)) = some (some (.agg #[.int .i64 0, .string ⟨#[]⟩, .int .i64 0, .int .i64 0, .int .i64 0]), 5, 48) := by kernel_rfl
/-- One ring; those of an alarm; those of the first alarms. -/
def rg1 (n : Int) (y : Tm) (k : Nat) (x : Al) (u : Nat) : Rg := (y.2.1 + bhd n x + u * x.2.2.2, y.1, (k : Int), (u : Int))
def rgX (n : Int) (y : Tm) (k : Nat) (x : Al) : List Rg := (List.range (x.2.2.1.toNat + 1)).map (rg1 n y k x)
def rgT (n : Int) (l : List Al) (y : Tm) (k : Nat) : List Rg := (List.range k).flatMap (fun j => rgX n y j (l.getD j (0, false, 0, 0)))
def rgO (n : Int) (l : List Al) (y : Tm) : List Rg := rgT n l y l.length
theorem rgT_succ (n : Int) (l : List Al) (y : Tm) (k : Nat) : rgT n l y (k + 1) = rgT n l y k ++ rgX n y k (l.getD k (0, false, 0, 0)) := by
  unfold rgT
  rw [List.range_succ, List.flatMap_append]
  simp
theorem rgX_len (n : Int) (y : Tm) (k : Nat) (x : Al) : (rgX n y k x).length = x.2.2.1.toNat + 1 := by unfold rgX; simp
theorem rgT_len {n : Int} {l : List Al} {y : Tm} (h : ∀ x ∈ l, alF x = 0) : ∀ {k : Nat}, k ≤ l.length → (rgT n l y k).length ≤ 6 * k
  | 0, _ => by simp [rgT]
  | k + 1, hk => by
    rw [rgT_succ, List.length_append, rgX_len]
    have := rgT_len (n := n) (y := y) h (k := k) (by omega)
    have := (alF_in (h _ (alm_mem (show k < l.length by omega)))).2.1
    omega
/-- An alarm's whole block. -/
def ABh (W : World) (b : Nat) (x : Al) : Prop := W.heap[b]? = some (.cells #[.int .i64 x.1, .bool x.2.1, .int .i64 x.2.2.1, .int .i64 x.2.2.2] 115 (0, 0))
theorem ABh.cells {W : World} {b : Nat} {x : Al} (h : ABh W b x) : ABx W b x := by
  unfold ABh at h
  refine ⟨?_, ?_, ?_, ?_⟩ <;> simp [World.cell?, h]
theorem ABh.on {W W' : World} {b : Nat} {x : Al} (h : ABh W b x) (q : Below W.heap.size W W') : ABh W' b x := (q.block b (ecell_in h.cells.1)).trans h
theorem row_ne {w : World} {n0 : Nat} {e t : TypeId} {k : Nat} {v : Value} {n : Nat} {xs : List Value} {b : Nat} {cs : Array Value} {fr : Nat × Nat} (h : w.ownsRow n0 e k v n xs) (hb : w.heap[b]? = some (.cells cs t fr)) (ht : t ≠ e) : some b ≠ v.ownBlock := by
  rcases h.2 with ⟨rfl, _⟩ | ⟨g, cap, cur, rfl, _, hg, _⟩
  · intro q; cases q
  · intro q
    have q' : b = g := by simpa [Value.ownBlock] using q
    subst q'
    rw [hg] at hb
    have := Option.some.inj hb
    injection this with _ z _
    exact ht z.symm
theorem mul_in {u : Nat} {x : Int} (hu : u ≤ 5) (h1 : 0 ≤ x) (h2 : x ≤ 10000) : 0 ≤ (u : Int) * x ∧ (u : Int) * x ≤ 50000 := by
  rcases (by omega : u = 0 ∨ u = 1 ∨ u = 2 ∨ u = 3 ∨ u = 4 ∨ u = 5) with rfl | rfl | rfl | rfl | rfl | rfl <;> omega
theorem map_snoc {α : Type} (f : Nat → α) (l : List α) (u : Nat) : l ++ (List.range (u + 1)).map f = (l ++ (List.range u).map f) ++ [f u] := by
  rw [List.range_succ, List.map_append, List.append_assoc]
  rfl
theorem wnm2 {n : Nat} {w w' : World} (_ : Below n w w') : ∃ x, x = w' := ⟨_, rfl⟩
set_option maxRecDepth 100000 in
set_option maxHeartbeats 8000000 in
theorem ringsOf_any (e : Evt) (s : Evs) (y : Tm) (w : World) (hv : EvB w e s) (h : evF e = 0) (y1 : 0 ≤ y.2.1) (y2 : y.2.1 ≤ 200000000) :
    Calls Tryz.prog 110 #[.agg (ecells e s), .agg #[.int .i64 y.1, .int .i64 y.2.1, .int .i64 y.2.2]] w fun x w' => ∃ u, x = .returned u ∧ w'.ownsRow w.heap.size 73 5 u (rgO e.len e.alm y).length ((rgO e.len e.alm y).flatMap (encR e.name)) ∧ Below w.heap.size w w' := by
  obtain ⟨i0, hi, hz0, hz1, hz2⟩ := info_parts info_rg
  obtain ⟨h1, h2⟩ := (evF_lens h).2.2.2.2.2
  obtain ⟨h3, h4⟩ := evF_alm h
  have R0 := EBox.new w e s 33
  have b1 : Below w.heap.size w (w.alloc (.cells (ecells e s) 33)) := (Below.refl _ _).alloc (Nat.le_refl _) _
  have z1 : (w.alloc (.cells (ecells e s) 33)).heap.size = w.heap.size + 1 := World.size_alloc _ _
  have b2 : Below (w.alloc (.cells (ecells e s) 33)).heap.size (w.alloc (.cells (ecells e s) 33)) ((w.alloc (.cells (ecells e s) 33)).alloc (.cells #[.int .i64 y.1, .int .i64 y.2.1, .int .i64 y.2.2] 44)) := (Below.refl _ _).alloc (Nat.le_refl _) _
  have R1 := R0.on b2
  have C : ((w.alloc (.cells (ecells e s) 33)).alloc (.cells #[.int .i64 y.1, .int .i64 y.2.1, .int .i64 y.2.2] 44)).cell? ⟨w.heap.size + 1, 0, none⟩ = some (.int .i64 y.1) ∧ ((w.alloc (.cells (ecells e s) 33)).alloc (.cells #[.int .i64 y.1, .int .i64 y.2.1, .int .i64 y.2.2] 44)).cell? ⟨w.heap.size + 1, 1, none⟩ = some (.int .i64 y.2.1) := by
    rw [← z1]
    constructor <;> simp
  have bb := b1.trans (b2.mono b1.size)
  have VA := (hv.on bb).2.2.2.2.2.2.2
  obtain ⟨W0, hW⟩ : ∃ W0, W0 = (w.alloc (.cells (ecells e s) 33)).alloc (.cells #[.int .i64 y.1, .int .i64 y.2.1, .int .i64 y.2.2] 44) := ⟨_, rfl⟩
  rw [← hW] at R1 C bb VA
  have HW := Lib.hid hW
  have HB := Lib.hid bb
  have HE := Lib.hid R1
  have HY := Lib.hid C
  have H4 := Lib.hid h4
  have c16 := R1.2.2.2.2.2
  obtain ⟨va, vc, ev, hc⟩ := VA
  rw [ev] at c16
  have HC := Lib.hid hc
  have cl := R1.lt
  have SZ := Lib.hid bb.size
  have GL := Lib.hid (fun k q => rgT_len (n := e.len) (y := y) h4 (k := k) q)
  have GS := Lib.hid (fun k => rgT_succ e.len e.alm y k)
  have GO : Hid (rgO e.len e.alm y = rgT e.len e.alm y e.alm.length) := Lib.hid rfl
  generalize rgO e.len e.alm y = RO at GO ⊢
  clear hW hc R0 R1 b1 z1 b2 bb h h4 hv ev C
  go_enter Tryz.func110, Tryz.ntmps110
  go_upto_region 1 with fail
  rw [← HW.out]
  clear HW
  go_wp2_with fail
  clear c16 cl
  go_loopw [5, 6, 7, 8, 9, 13] (fun lv _ _ _ _ iv wr => ∃ k : Nat, k ≤ e.alm.length ∧ iv = .int .i64 k ∧ wr.ownsRow W0.heap.size 73 5 lv (rgT e.len e.alm y k).length ((rgT e.len e.alm y k).flatMap (encR e.name)) ∧ Below W0.heap.size W0 wr) (fun _ _ _ _ _ iv _ => e.alm.length - (intOf iv).toNat)
  case atStart => exact ⟨0, Nat.zero_le _, rfl, World.ownsRow_nil _ _ _ _, Below.refl _ _⟩
  case round =>
    obtain ⟨k, hk, rfl, hown, hB⟩ := hrel
    have HBr := Lib.hid hB
    have HO := Lib.hid hown
    by_cases hlt : k < e.alm.length
    · rcases HC.out with hc | ⟨lb, lo, rfl, hc⟩
      · rw [hc] at hlt; simp at hlt
      obtain ⟨k0, k1, k2, k3⟩ := hc k hlt
      have ax := H4.out _ (alm_mem hlt)
      have gl := GL.out k (by omega)
      have GK := Lib.hid (GS.out k)
      generalize e.alm.getD k (0, false, 0, 0) = X at k0 k1 k2 k3 ax GK
      obtain ⟨x1, x2, x3, x4⟩ := X
      dsimp only at k0 k1 k2 k3
      obtain ⟨⟨o1, o2⟩, ⟨r1, r2⟩, ⟨p1, p2⟩, _⟩ := alF_in ax
      dsimp only at o1 o2 r1 r2 p1 p2
      have bi := bhd_in ax h1 h2
      have q0 := (hB.cell (p := ⟨lb, lo + k * 4, none⟩) (ecell_in k0)).trans k0
      have q1 := (hB.cell (p := ⟨lb, lo + k * 4 + 1, none⟩) (ecell_in k0)).trans k1
      have q2 := (hB.cell (p := ⟨lb, lo + k * 4 + 2, none⟩) (ecell_in k0)).trans k2
      have q3 := (hB.cell (p := ⟨lb, lo + k * 4 + 3, none⟩) (ecell_in k0)).trans k3
      have lb2 := ecell_in q0
      have b3 : Below wr.heap.size wr (wr.alloc (.cells #[.int .i64 x1, .bool x2, .int .i64 x3, .int .i64 x4] 115)) := (Below.refl _ _).alloc (Nat.le_refl _) _
      have A3 : ABh (wr.alloc (.cells #[.int .i64 x1, .bool x2, .int .i64 x3, .int .i64 x4] 115)) wr.heap.size (x1, x2, x3, x4) := heap_alloc_new wr _
      obtain ⟨W3, hW3⟩ : ∃ W3, W3 = wr.alloc (.cells #[.int .i64 x1, .bool x2, .int .i64 x3, .int .i64 x4] 115) := ⟨_, rfl⟩
      rw [← hW3] at b3 A3
      have HW3 := Lib.hid hW3
      have BW := Lib.hid (HBr.out.trans (b3.mono HBr.out.size))
      have HA3 := Lib.hid A3
      have HO3 := Lib.hid (ow_below hown b3)
      have KM := Lib.hid (fun W (_ : Below W3.heap.size W3 W) => alBeh_any e s x1 x2 x3 x4 W h1 h2 o1 o2)
      clear hc k0 k1 k2 k3 hB b3 A3 hW3 ax HBr hown HO
      go_upto_region 5 with fail
      rw [← HW3.out]
      clear HW3 q0 q1 q2 q3 lb2
      obtain ⟨f0, f1, f2, f3, f4, f5, f6, f7, f8, f9, f10, f11, f12, f13, f14, f15, f16⟩ := ebox17 (HE.out.on BW.out)
      obtain ⟨a0, a1, a2, a3⟩ := HA3.out.cells
      dsimp only at a0 a1 a2 a3
      have t1 := (BW.out.cell (p := ⟨w.heap.size + 1, 1, none⟩) (ecell_in HY.out.2)).trans HY.out.2
      have n0 := cell_regrown f0
      have n1 := cell_regrown f1
      have n2 := cell_regrown f2
      have n3 := cell_regrown f3
      have n4 := cell_regrown f4
      have n5 := cell_regrown f5
      have n6 := cell_regrown f6
      have n7 := cell_regrown f7
      have n8 := cell_regrown f8
      have n9 := cell_regrown f9
      have n10 := cell_regrown f10
      have n11 := cell_regrown f11
      have n12 := cell_regrown f12
      have n13 := cell_regrown f13
      have n14 := cell_regrown f14
      have n15 := cell_regrown f15
      have n16 := cell_regrown f16
      have e0 := cell_regrown a0
      have e1 := cell_regrown a1
      have e2 := cell_regrown a2
      have e3 := cell_regrown a3
      have e4 := cell_regrown t1
      clear f0 f1 f2 f3 f4 f5 f6 f7 f8 f9 f10 f11 f12 f13 f14 f15 f16 a0 a1 a2 a3 t1
      refine wp_region_quiet_below (by kernel_rfl) (by kernel_rfl) ?_
      repeat (quiet_step (first | (go_at_call 161; exact Calls.regrown_of (KM.out _ (below_regrown W3 _ _)))))
      refine wpQuiet_nil ?_
      intro _ hw'
      obtain ⟨⟨dq, osq⟩, hw''⟩ := hw'
      subst hw''
      have hb5 := below_regrown W3 dq osq
      have B5 := Lib.hid (BW.out.trans (hb5.mono BW.out.size))
      have HA5 := Lib.hid (HA3.out.on hb5)
      have HO5 := Lib.hid (ow_below HO3.out hb5)
      clear n0 n1 n2 n3 n4 n5 n6 n7 n8 n9 n10 n11 n12 n13 n14 n15 n16 e0 e1 e2 e3 e4 KM HO3 HA3 BW hb5
      generalize Sort.grow (redrawn W3 dq) osq = W5 at B5 HA5 HO5 ⊢
      obtain ⟨FI, hFI⟩ : ∃ FI, FI = y.2.1 + bhd e.len (x1, x2, x3, x4) := ⟨_, rfl⟩
      have fi1 : -100000 ≤ FI := by omega
      have fi2 : FI ≤ 300000000 := by omega
      rw [← hFI]
      have RG : Hid (∀ u : Nat, rg1 e.len y k (x1, x2, x3, x4) u = (FI + u * x4, y.1, (k : Int), (u : Int))) := Lib.hid (fun u => by rw [hFI]; rfl)
      have GX : Hid (rgX e.len y k (x1, x2, x3, x4) = (List.range (x3.toNat + 1)).map (rg1 e.len y k (x1, x2, x3, x4))) := Lib.hid rfl
      generalize rgX e.len y k (x1, x2, x3, x4) = XS at GX GK
      generalize rg1 e.len y k (x1, x2, x3, x4) = RF at RG GX
      generalize rgT e.len e.alm y k = RT at GK HO5 gl
      obtain ⟨bA, hbA⟩ : ∃ bA, bA = wr.heap.size := ⟨_, rfl⟩
      rw [← hbA] at HA5 ⊢
      have SW := Lib.hid B5.out.size
      have EN := Lib.hid (fun W (q : Below W0.heap.size W0 W) => (HE.out.on q).1.1)
      clear hFI hbA bi
      obtain ⟨a0, a1, a2, a3⟩ := HA5.out.cells
      have al := ecell_in a0
      dsimp only at a0 a1 a2 a3
      go_wp2_with fail
      clear a0 a1 a2 a3 al
      go_loopw [5, 9, 27] (fun lv _ iv wq => ∃ u : Nat, (u : Int) ≤ x3 + 1 ∧ iv = .int .i64 u ∧ wq.ownsRow W0.heap.size 73 5 lv (RT ++ (List.range u).map RF).length ((RT ++ (List.range u).map RF).flatMap (encR e.name)) ∧ ABh wq bA (x1, x2, x3, x4) ∧ Below W0.heap.size W0 wq) (fun _ _ iv _ => x3.toNat + 1 - (intOf iv).toNat)
      case atStart => exact ⟨0, by omega, rfl, by simpa using HO5.out, HA5.out, B5.out⟩
      case round =>
        obtain ⟨u, hu, rfl, hown, hA, hB⟩ := hrel
        obtain ⟨wx, hwx⟩ := wnm2 hB
        subst hwx
        have HO := Lib.hid hown
        have HBx := Lib.hid hB
        have HAx := Lib.hid hA
        by_cases hlt : (u : Int) < x3 + 1
        · obtain ⟨a0, a1, a2, a3⟩ := hA.cells
          have al := ecell_in a0
          dsimp only at a0 a1 a2 a3
          have c0 := EN.out _ hB
          have cl := ecell_in c0
          have c1 := (hB.cell (p := ⟨w.heap.size + 1, 0, none⟩) (ecell_in HY.out.1)).trans HY.out.1
          have cl2 := ecell_in c1
          obtain ⟨UM, mu⟩ : ∃ UM, (u : Int) * x4 = UM := ⟨_, rfl⟩
          obtain ⟨m1, m2⟩ := mul_in (u := u) (x := x4) (by omega) p1 p2
          rw [mu] at m1 m2
          have RU : Hid (RF u = (FI + UM, y.1, (k : Int), (u : Int))) := Lib.hid (by rw [RG.out u, mu])
          have MS := Lib.hid (map_snoc RF RT u)
          have fl : (RT ++ (List.range u).map RF).length ≤ 60 := by
            rw [List.length_append, List.length_map, List.length_range]
            omega
          have NE := Lib.hid (row_ne hown hA (by decide))
          have sz := hB.size
          generalize (List.range u).map RF = RM at HO MS fl hown
          generalize RT ++ RM = RS at HO MS fl hown
          clear hown hA a0 a1 a2
          go_wp2_with (at_builtin; refine wpList_append_own _ rfl _ _ 75 rfl W0.heap.size 73 i0 (.agg #[.int .i64 0, .string ⟨#[]⟩, .int .i64 0, .int .i64 0, .int .i64 0]) 5 48 Tryz.underlying75 hi hz0 hz1 hz2 rfl (by decide) _ _ _ rfl (HO.out.alloc _) ⟨wx.heap.size, 0, none⟩ 1 1 [.int .i64 (FI + UM), .string e.name, .int .i64 y.1, .int .i64 (k : Int), .int .i64 (u : Int)] rfl rfl ?d1 ?d2 ?d3 ?d4 ?d5 ?_)
          case d1 =>
            intro j u hj
            match j, hj with
            | 0, hj => simp at hj; subst hj; simp [Addr.add]
            | 1, hj => simp at hj; subst hj; simp [Addr.add]
            | 2, hj => simp at hj; subst hj; simp [Addr.add]
            | 3, hj => simp at hj; subst hj; simp [Addr.add]
            | 4, hj => simp at hj; subst hj; simp [Addr.add]
          case d2 => intro u hu; simp at hu; rcases hu with rfl | rfl | rfl | rfl | rfl <;> rfl
          case d3 => unfold maxLen; omega
          case d4 => omega
          case d5 => simp; omega
          intro v' w6 hown' hgrow _
          have Q2 := Lib.hid (ow_grow HBx.out.size HBx.out (Below.refl _ _) HO.out hgrow)
          have Q3 : Hid (ABh w6 bA (x1, x2, x3, x4)) := Lib.hid ((hgrow.block bA (by rw [World.size_alloc]; omega) NE.out).trans (HAx.out.on ((Below.refl _ _).alloc (Nat.le_refl _) _)))
          have Q1 : Hid (w6.ownsRow W0.heap.size 73 5 v' (RS ++ [RF u]).length ((RS ++ [RF u]).flatMap (encR e.name))) := Lib.hid (by
            rw [List.length_append, List.flatMap_append, RU.out]
            exact hown')
          clear hown' hgrow HO a3 c0 c1
          go_wp2
          go_roundw
          case rel => exact ⟨u + 1, by omega, by go_num, by rw [MS.out]; exact Q1.out, Q3.out, Q2.out⟩
          case measure => simp [intOf]; omega
        · have eu : u = x3.toNat + 1 := by omega
          have Q1 := Lib.hid HO.out
          rw [eu, ← GX.out, ← GK.out] at Q1
          clear eu hown hA HO
          go_wp2
          go_roundw
          case rel => exact ⟨k + 1, by omega, by go_num, Q1.out, HBx.out⟩
          case measure => simp [intOf]; omega
    · have ek : k = e.alm.length := by omega
      have O9 := HO.out
      rw [ek, ← GO.out] at O9
      have ZZ := Lib.hid (And.intro (own_mono O9 SZ.out) (HB.out.trans (hB.mono HB.out.size)))
      clear O9 HO hown ek
      go_wp2
      go_ret
      exact ⟨_, rfl, ZZ.out.1, ZZ.out.2⟩
end Go.Proofs.YtoncfgfjdlgfcaaGreatDoor
namespace Go.Proofs.YtoncfgfjdlgfcaaGreatDoor
open Go.RowKit Cal Txt

/-- Cells hold rings, and may be written. -/
def Hol5 (nm : ByteArray) (w : World) (b off : Nat) (l : List Rg) : Prop := ∀ j, j < l.length → w.rangeAt b (off + j * 5) (encR nm (l.getD j (0, 0, 0, 0))) ∧ ∀ c, c < 5 → w.frozen? ⟨b, off + j * 5 + c, none⟩ = false
theorem Hol5.cells {nm : ByteArray} {w : World} {b off : Nat} {l : List Rg} (h : Hol5 nm w b off l) {j : Nat} (hj : j < l.length) : w.cell? ⟨b, off + j * 5, none⟩ = some (.int .i64 (l.getD j (0, 0, 0, 0)).1) ∧ w.cell? ⟨b, off + j * 5 + 1, none⟩ = some (.string nm) ∧ w.cell? ⟨b, off + j * 5 + 2, none⟩ = some (.int .i64 (l.getD j (0, 0, 0, 0)).2.1) ∧ w.cell? ⟨b, off + j * 5 + 3, none⟩ = some (.int .i64 (l.getD j (0, 0, 0, 0)).2.2.1) ∧ w.cell? ⟨b, off + j * 5 + 4, none⟩ = some (.int .i64 (l.getD j (0, 0, 0, 0)).2.2.2) := by
  have r := (h j hj).1
  exact ⟨r 0 _ rfl, r 1 _ rfl, r 2 _ rfl, r 3 _ rfl, r 4 _ rfl⟩
theorem Hol5.lt {nm : ByteArray} {w : World} {b off : Nat} {l : List Rg} (h : Hol5 nm w b off l) (h0 : 0 < l.length) : b < w.heap.size := ecell_in (h.cells h0).1
theorem Hol5.on {nm : ByteArray} {w W : World} {b off : Nat} {l : List Rg} (h : Hol5 nm w b off l) (q : Below w.heap.size w W) : Hol5 nm W b off l := fun j hj => by
  have hb : b < w.heap.size := ecell_in (h.cells hj).1
  obtain ⟨c, f⟩ := bcell q
  exact ⟨fun i v hv => (c _ _ hb).trans ((h j hj).1 i v hv), fun i hi => (f _ _ hb).trans ((h j hj).2 i hi)⟩
theorem Hol5.take {nm : ByteArray} {w : World} {b off : Nat} {l : List Rg} (h : Hol5 nm w b off l) (i : Nat) : Hol5 nm w b off (l.take i) := fun j hj => by
  rw [List.length_take] at hj
  have := h j (by omega)
  rwa [List.getD_eq_getElem?_getD, List.getElem?_take, if_pos (by omega), ← List.getD_eq_getElem?_getD]
theorem Hol5.there {nm : ByteArray} {w : World} {b off : Nat} {l : List Rg} (h : Hol5 nm w b off l) {i : Nat} (hi : i < l.length) : w.there b (off + i * 5) 5 := fun j hj => by
  obtain ⟨r, f⟩ := h i hi
  have e : (encR nm (l.getD i (0, 0, 0, 0)))[j]? = some ((encR nm (l.getD i (0, 0, 0, 0)))[j]'hj) := List.getElem?_eq_getElem hj
  exact ⟨by rw [r j _ e]; rfl, f j hj⟩
theorem Hol5.store {nm : ByteArray} {w : World} {b off : Nat} {l : List Rg} (h : Hol5 nm w b off l) {i : Nat} (hi : i < l.length) (x : Rg) : Hol5 nm (w.setCells b (off + i * 5) (encR nm x)) b off (l.set i x) := fun j hj => by
  rw [List.length_set] at hj
  refine ⟨?_, fun c hc => by rw [World.frozen?_setCells]; exact (h j hj).2 c hc⟩
  by_cases e : j = i
  · subst e
    have e2 : (l.set j x).getD j (0, 0, 0, 0) = x := by rw [List.getD_eq_getElem?_getD, List.getElem?_set_self hj]; rfl
    rw [e2]
    exact World.rangeAt_setCells_same w b (off + j * 5) (encR nm x) (h.there hi)
  · have e2 : (l.set i x).getD j (0, 0, 0, 0) = l.getD j (0, 0, 0, 0) := by rw [List.getD_eq_getElem?_getD, List.getElem?_set_ne (by omega), ← List.getD_eq_getElem?_getD]
    rw [e2]
    intro c v hv
    have hc : c < 5 := (List.getElem?_eq_some_iff.1 hv).1
    rw [World.cell?_setCells_out _ _ _ _ _ (fun _ _ => by show off + j * 5 + c < off + i * 5 ∨ off + i * 5 + 5 ≤ off + j * 5 + c; omega)]
    exact (h j hj).1 c v hv
theorem Hol5.cut {nm : ByteArray} {w : World} {b off : Nat} {l : List Rg} (h : Hol5 nm w b off l) (i : Nat) (vs : List Value) : Hol5 nm (w.setCells b (off + i * 5) vs) b off (l.take i) := fun j hj => by
  have hj2 := hj
  rw [List.length_take] at hj2
  obtain ⟨r, f⟩ := (h.take i) j hj
  refine ⟨fun c v hv => ?_, fun c hc => by rw [World.frozen?_setCells]; exact f c hc⟩
  have hc : c < 5 := (List.getElem?_eq_some_iff.1 hv).1
  rw [World.cell?_setCells_out _ _ _ _ _ (fun _ _ => Or.inl (by show off + j * 5 + c < off + i * 5; omega))]
  exact r c v hv
theorem Hol5.cellsAt {nm : ByteArray} {w : World} {b off : Nat} {l : List Rg} (h : Hol5 nm w b off l) (i : Nat) (j : Nat) (hj : j < (l.length - i) * 5) : (w.cell? ⟨b, off + i * 5 + j, none⟩).isSome = true ∧ w.frozen? ⟨b, off + i * 5 + j, none⟩ = false := by
  have q := h.there (i := i + j / 5) (by omega) (j % 5) (by omega)
  rwa [show off + (i + j / 5) * 5 + j % 5 = off + i * 5 + j by omega] at q
theorem Hol5.rowK {nm : ByteArray} {w : World} {b off cap : Nat} {l : List Rg} (h : Hol5 nm w b off l) : RowK (encR nm) w (.slice (some ⟨b, off, none⟩) l.length cap) l :=
  ⟨_, _, rfl, Or.inr ⟨b, off, rfl, fun j u hu => by
    have hl : j < l.length * 5 := by have := (List.getElem?_eq_some_iff.1 hu).1; rwa [flat_len (encR nm) 5 (fun _ => rfl)] at this
    have q := flat_at (encR nm) 5 (fun _ => rfl) l (j / 5) (j % 5) (by omega) (by omega)
    rw [show j / 5 * 5 + j % 5 = j by omega, hu] at q
    have := (h (j / 5) (by omega)).1 (j % 5) u q.symm
    rwa [show off + j / 5 * 5 + j % 5 = off + j by omega] at this⟩⟩
theorem own_hol5 {nm : ByteArray} {w : World} {n0 n : Nat} {v : Value} {l : List Rg} (h : w.ownsRow n0 73 5 v n (l.flatMap (encR nm))) : (v = .slice none 0 0 ∧ l = []) ∨ ∃ g cap, v = .slice (some ⟨g, 0, none⟩) l.length cap ∧ n0 ≤ g ∧ g < w.heap.size ∧ l.length ≤ cap ∧ Hol5 nm w g 0 l := by
  rcases (own_openK (encR nm) 5 (fun _ => rfl) (by decide) h).2 with q | ⟨g, cap, hv, h1, h2, h3, hh⟩
  · exact Or.inl q
  · refine Or.inr ⟨g, cap, hv, h1, h2, h3, fun j hj => ⟨fun c v' hv' => ?_, fun c hc => ?_⟩⟩
    · have hc : c < 5 := (List.getElem?_eq_some_iff.1 hv').1
      have q := (hh (j * 5 + c) (by simp; omega)).1
      rw [Sort.get_flatK _ _ _ _ (by simp; omega), show (j * 5 + c) / 5 = j by omega, show (j * 5 + c) % 5 = c by omega, getK l j hj] at q
      have e2 : (encR nm (l.getD j default))[c]! = v' := by
        have e3 : (encR nm (l.getD j (0, 0, 0, 0)))[c]? = some v' := hv'
        exact (List.getElem!_eq_getElem?_getD ..).trans (by rw [show (encR nm (l.getD j default))[c]? = some v' from e3]; rfl)
      rw [e2] at q
      rw [Nat.zero_add] at q ⊢
      exact q
    · have q := (hh (j * 5 + c) (by simp; omega)).2
      rw [Nat.zero_add] at q ⊢
      exact q
/-- clear, at rings. -/
def zr5 : List Value := [.int .i64 0, .string ⟨#[]⟩, .int .i64 0, .int .i64 0, .int .i64 0]
def zrs (n : Nat) : List Value := (List.range (n * 5)).map (fun i => zr5.getD (i % 5) undef)
theorem run_clear5 (w : World) (ty : TypeId) (b o n c : Nat) (hn : 0 < n) (hc : ∀ j, j < n * 5 → (w.cell? ⟨b, o + j, none⟩).isSome = true) (hf : ∀ j, j < n * 5 → w.frozen? ⟨b, o + j, none⟩ = false) :
    (Builtin.clear_ #[75] ty #[.slice (some ⟨b, o, none⟩) n c]).run Tryz.prog w = .ok (.tuple #[]) (w.setCells b o (zrs n)) := by
  have hv : ∀ w, (zeroValue 73).run Tryz.prog w = .ok (.agg zr5.toArray) w := fun _ => by kernel_rfl
  have hzc : (Builtin.zeroCells (Value.agg zr5.toArray).cells n).toList = zrs n := by
    show (Builtin.zeroCells zr5.toArray n).toList = _
    simp only [Builtin.zeroCells, Array.toList_map, zrs]
    apply List.ext_getElem
    · simp [zr5]
    · intro i h1 h2
      have : i % 5 < 5 := Nat.mod_lt _ (by decide)
      rcases (by omega : i % 5 = 0 ∨ i % 5 = 1 ∨ i % 5 = 2 ∨ i % 5 = 3 ∨ i % 5 = 4) with q | q | q | q | q <;> simp [q, zr5]
  have hone : ∀ v ∈ zrs n, v.oneCell' = true := fun v hv' => by
    unfold zrs at hv'
    obtain ⟨i, _, rfl⟩ := List.mem_map.1 hv'
    have : i % 5 < 5 := Nat.mod_lt _ (by decide)
    rcases (by omega : i % 5 = 0 ∨ i % 5 = 1 ∨ i % 5 = 2 ∨ i % 5 = 3 ∨ i % 5 = 4) with q | q | q | q | q <;> rw [q] <;> rfl
  have hst := run_storeCells_cells (P := Tryz.prog) b o (zrs n) 0 w (by simpa [zrs] using hc) (by simpa [zrs] using hf) hone
  simp only [Nat.add_zero] at hst
  obtain ⟨m, rfl⟩ : ∃ m, n = m + 1 := ⟨n - 1, by omega⟩
  simp [Builtin.clear_, run_underlying Tryz.underlying75, hv, hzc, hst]
/-- How far the deleting has come. -/
def DInv5 (l : List Rg) (p : Rg → Bool) (j i : Nat) (d : List Rg) : Prop :=
  d.length = l.length ∧ i < j ∧ j ≤ l.length ∧ d.take i = (l.take j).filter (fun x => !p x) ∧ ∀ t, j ≤ t → d.getD t (0, 0, 0, 0) = l.getD t (0, 0, 0, 0)
theorem DInv5.begin {l : List Rg} {p : Rg → Bool} {k : Nat} (hk : k < l.length) (ha : (l.take k).any p = false) (hp : p (l.getD k (0, 0, 0, 0)) = true) : DInv5 l p (k + 1) k l := by
  refine ⟨rfl, by omega, by omega, ?_, fun t _ => rfl⟩
  rw [List.take_succ_eq_append_getElem hk, List.filter_append]
  rw [List.getD_eq_getElem?_getD, List.getElem?_eq_getElem hk] at hp
  have hp' : p l[k] = true := hp
  rw [List.filter_eq_self.2 (fun x hx => by have := List.any_eq_false.1 ha x hx; simpa using this)]
  simp [hp']
theorem DInv5.skip {l : List Rg} {p : Rg → Bool} {j i : Nat} {d : List Rg} (h : DInv5 l p j i d) (hj : j < l.length) (hp : p (l.getD j (0, 0, 0, 0)) = true) : DInv5 l p (j + 1) i d := by
  obtain ⟨a, b, c, e, f⟩ := h
  refine ⟨a, by omega, by omega, ?_, fun t ht => f t (by omega)⟩
  rw [List.getD_eq_getElem?_getD, List.getElem?_eq_getElem hj] at hp
  have hp' : p l[j] = true := hp
  rw [List.take_succ_eq_append_getElem hj, List.filter_append, ← e]
  simp [hp']
theorem DInv5.keep {l : List Rg} {p : Rg → Bool} {j i : Nat} {d : List Rg} (h : DInv5 l p j i d) (hj : j < l.length) (hp : p (l.getD j (0, 0, 0, 0)) = false) : DInv5 l p (j + 1) (i + 1) (d.set i (l.getD j (0, 0, 0, 0))) := by
  obtain ⟨a, b, c, e, f⟩ := h
  refine ⟨by simpa using a, by omega, by omega, ?_, fun t ht => ?_⟩
  · rw [List.take_succ_eq_append_getElem (l := l) hj, List.filter_append, ← e]
    rw [List.getD_eq_getElem?_getD, List.getElem?_eq_getElem hj] at hp ⊢
    have hp' : p l[j] = false := hp
    rw [List.take_succ_eq_append_getElem (by rw [List.length_set]; omega), List.take_set_of_le (Nat.le_refl _)]
    simp [hp']
  · rw [List.getD_eq_getElem?_getD, List.getElem?_set_ne (by omega), ← List.getD_eq_getElem?_getD]
    exact f t (by omega)
theorem DInv5.done {l : List Rg} {p : Rg → Bool} {i : Nat} {d : List Rg} (h : DInv5 l p l.length i d) : d.take i = l.filter (fun x => !p x) := by
  have := h.2.2.2.1
  rwa [List.take_length] at this
theorem any_tk5 (p : Rg → Bool) (l : List Rg) (k : Nat) (h : k < l.length) (ha : (l.take k).any p = false) (hp : p (l.getD k (0, 0, 0, 0)) = false) : (l.take (k + 1)).any p = false := by
  rw [List.take_succ_eq_append_getElem h, List.any_append, ha, List.any_cons, List.any_nil]
  rw [List.getD_eq_getElem?_getD, List.getElem?_eq_getElem h] at hp
  simpa using hp
end Go.Proofs.YtoncfgfjdlgfcaaGreatDoor
namespace Go.Proofs.YtoncfgfjdlgfcaaGreatDoor
open Go.RowKit Cal Txt

/-- A ring in a block. -/
def RBx (nm : ByteArray) (W : World) (b : Nat) (x : Rg) : Prop := W.cell? ⟨b, 0, none⟩ = some (.int .i64 x.1) ∧ W.cell? ⟨b, 1, none⟩ = some (.string nm) ∧ W.cell? ⟨b, 2, none⟩ = some (.int .i64 x.2.1) ∧ W.cell? ⟨b, 3, none⟩ = some (.int .i64 x.2.2.1) ∧ W.cell? ⟨b, 4, none⟩ = some (.int .i64 x.2.2.2)
theorem RBx.on {nm : ByteArray} {W W' : World} {b : Nat} {x : Rg} (h : RBx nm W b x) (q : Below W.heap.size W W') : RBx nm W' b x := by
  have l := ecell_in h.1
  exact ⟨(q.cell (p := ⟨b, 0, none⟩) l).trans h.1, (q.cell (p := ⟨b, 1, none⟩) l).trans h.2.1, (q.cell (p := ⟨b, 2, none⟩) l).trans h.2.2.1, (q.cell (p := ⟨b, 3, none⟩) l).trans h.2.2.2.1, (q.cell (p := ⟨b, 4, none⟩) l).trans h.2.2.2.2⟩
theorem RBx.new (nm : ByteArray) (W : World) (x : Rg) (t : TypeId) : RBx nm (W.alloc (.cells #[.int .i64 x.1, .string nm, .int .i64 x.2.1, .int .i64 x.2.2.1, .int .i64 x.2.2.2] t)) W.heap.size x := by
  refine ⟨?_, ?_, ?_, ?_, ?_⟩ <;> simp
/-- A ring is stored into a row. -/
theorem rg_store (nm : ByteArray) {ops : Array Oper} {rest : List Oper} {op : Oper} {a : Act} {W : World} {Q : Exit → Act → World → Prop} (hgd : op.guard = none) (x y : Operand) (ho : op.op = .store 73 x y) (hd : op.dst = none)
    (b o : Nat) (c : Rg) (hx : a.eval x = .pointer (some ⟨b, o, none⟩)) (hy : a.eval y = .agg #[.int .i64 c.1, .string nm, .int .i64 c.2.1, .int .i64 c.2.2.1, .int .i64 c.2.2.2]) (ht : W.there b o 5)
    (h : wpList Tryz.prog ops Q rest a (W.setCells b o (encR nm c))) : wpList Tryz.prog ops Q (op :: rest) a W := by
  refine wpList_store_mid hgd 73 x y ho b o #[.int .i64 c.1, .string nm, .int .i64 c.2.1, .int .i64 c.2.2.1, .int .i64 c.2.2.2] hx hy ht (by kernel_rfl) (by simp [Value.oneCell']) ?_
  rw [hd]
  exact h
/-- How the closure answers, whatever is beside one block. -/
def ClR (nm : ByteArray) (b : Nat) (w : World) (c1 c2 : Value) (p : Rg → Bool) : Prop :=
  ∀ (c : Rg) (W : World), Apt b w W → Calls Tryz.prog 108 #[.agg #[.int .i64 c.1, .string nm, .int .i64 c.2.1, .int .i64 c.2.2.1, .int .i64 c.2.2.2], c1, c2] W fun e w' => e = .returned (.bool (p c)) ∧ Below W.heap.size W w'
set_option maxRecDepth 100000 in
set_option maxHeartbeats 1000000 in
theorem idxR (nm : ByteArray) (c1 c2 : Value) (p : Rg → Bool) (l : List Rg) (b off cap : Nat) (w : World) (hC : ClR nm b w c1 c2 p) (hh : Hol5 nm w b off l) (hl : l.length ≤ 1000000) :
    Calls Tryz.prog 162 #[.slice (some ⟨b, off, none⟩) l.length cap, .func (.func 108) #[] #[c1, c2]] w fun e w' => Below w.heap.size w w' ∧
      ((e = .returned (.int .i64 (-1)) ∧ l.any p = false) ∨ ∃ k : Nat, e = .returned (.int .i64 k) ∧ k < l.length ∧ (l.take k).any p = false ∧ p (l.getD k (0, 0, 0, 0)) = true) := by
  have HH := Lib.hid hh
  have HC := Lib.hid hC
  clear hh hC
  have eg : ∀ args w, (callFunc 108 args).run Tryz.prog w = .ok (.enter 108 args) w := enters_of Tryz.func108 (by kernel_rfl) rfl
  go_enter Tryz.func162, Tryz.ntmps162
  go_wp2
  go_loopw [8] (fun i wr => ∃ k : Nat, k ≤ l.length ∧ i = .int .i64 k ∧ (l.take k).any p = false ∧ Below w.heap.size w wr) (fun i _ => l.length - (intOf i).toNat)
  case atStart => exact ⟨0, Nat.zero_le _, rfl, rfl, Below.refl _ _⟩
  case round =>
    obtain ⟨k, hk, rfl, hF, hB⟩ := hrel
    have HF := Lib.hid hF
    have HB := Lib.hid hB
    clear hF
    by_cases hlt : k < l.length
    · obtain ⟨k1, k2, k3, k4, k5⟩ := (HH.out.on hB).cells hlt
      have bl := ecell_in k1
      have K := Lib.hid (HC.out (l.getD k (0, 0, 0, 0)) wr (apt_below b hB))
      obtain ⟨X, hX⟩ : ∃ X, X = l.getD k (0, 0, 0, 0) := ⟨_, rfl⟩
      rw [← hX] at k1 k3 k4 k5 K
      have HX := Lib.hid hX
      clear hX hB
      go_wp2_with fail
      refine K.out.mono ?_
      rintro e w2 ⟨rfl, hb⟩
      have HB2 := Lib.hid (HB.out.trans (hb.mono HB.out.size))
      clear hb K k1 k2 k3 k4 k5 bl
      rcases hp : p X with _ | _
      · have N1 := Lib.hid (any_tk5 p l k hlt HF.out (by rw [← HX.out]; exact hp))
        go_wp2
        go_roundw
        case rel => exact ⟨k + 1, by omega, by go_num, N1.out, HB2.out⟩
        case measure => simp [intOf]; omega
      · have N1 : Hid (p (l.getD k (0, 0, 0, 0)) = true) := Lib.hid (by rw [← HX.out]; exact hp)
        go_wp2
        go_ret
        exact ⟨HB2.out, Or.inr ⟨k, rfl, hlt, HF.out, N1.out⟩⟩
    · have N1 : Hid (l.any p = false) := Lib.hid (by have := HF.out; rwa [List.take_of_length_le (by omega)] at this)
      go_wp2
      go_ret
      exact ⟨HB.out, Or.inl ⟨rfl, N1.out⟩⟩
set_option maxRecDepth 100000 in
set_option maxHeartbeats 4000000 in
theorem delR (nm : ByteArray) (c1 c2 : Value) (p : Rg → Bool) (l : List Rg) (b off cap : Nat) (w : World) (hC : ClR nm b w c1 c2 p) (hh : Hol5 nm w b off l) (h0 : 0 < l.length) (hcap : l.length ≤ cap) (hl : l.length ≤ 1000000) :
    Calls Tryz.prog 109 #[.slice (some ⟨b, off, none⟩) l.length cap, .func (.func 108) #[] #[c1, c2]] w fun e w' => e = .returned (.slice (some ⟨b, off, none⟩) (l.filter (fun x => !p x)).length cap) ∧ Hol5 nm w' b off (l.filter (fun x => !p x)) ∧ Apt b w w' := by
  have K := Lib.hid (idxR nm c1 c2 p l b off cap w hC hh hl)
  have HH := Lib.hid hh
  have HC := Lib.hid hC
  clear hh hC
  have eg : ∀ args w, (callFunc 108 args).run Tryz.prog w = .ok (.enter 108 args) w := enters_of Tryz.func108 (by kernel_rfl) rfl
  go_enter Tryz.func109, Tryz.ntmps109
  go_wp2_with fail
  refine K.out.mono ?_
  rintro e w1 ⟨hb1, hx⟩
  have B1 := Lib.hid hb1
  clear K hb1
  rcases hx with ⟨rfl, ha⟩ | ⟨k, rfl, hk, ha, hp⟩
  · have N : Hid (l.filter (fun x => !p x) = l) := Lib.hid (List.filter_eq_self.2 (fun x hx => by have := List.any_eq_false.1 ha x hx; simpa using this))
    clear ha
    go_wp2
    go_ret
    exact ⟨by rw [N.out]; rfl, by rw [N.out]; exact HH.out.on B1.out, apt_below b B1.out⟩
  · have D0 := Lib.hid (DInv5.begin hk ha hp)
    have nk : ((k : Int) == -1) = false := by simp
    clear ha hp
    go_wp2_with fail
    go_loopw [5, 6, 7] (fun iv jv _ wr => ∃ (i j : Nat) (d : List Rg), iv = .int .i64 i ∧ jv = .int .i64 j ∧ DInv5 l p j i d ∧ Hol5 nm wr b off d ∧ Apt b w wr) (fun _ jv _ _ => l.length - (intOf jv).toNat)
    case atStart => exact ⟨k, k + 1, l, rfl, by go_num, D0.out, HH.out.on B1.out, apt_below b B1.out⟩
    case round =>
      obtain ⟨i, j, d, rfl, rfl, hD, hh, hB⟩ := hrel
      have ij := hD.2.1
      have jl := hD.2.2.1
      have dl := hD.1
      have HD := Lib.hid hD
      have HHd := Lib.hid hh
      have HB := Lib.hid hB
      have bw := hh.lt (by omega)
      clear hD hh hB D0 B1
      by_cases hlt : j < l.length
      · obtain ⟨k1, k2, k3, k4, k5⟩ := HHd.out.cells (j := j) (by omega)
        rw [HD.out.2.2.2.2 j (Nat.le_refl _)] at k1 k3 k4 k5
        obtain ⟨X, hX⟩ : ∃ X, X = l.getD j (0, 0, 0, 0) := ⟨_, rfl⟩
        rw [← hX] at k1 k3 k4 k5
        have HX := Lib.hid hX
        have T3 := RBx.new nm wr X 73
        have b3 : Below wr.heap.size wr (wr.alloc (.cells #[.int .i64 X.1, .string nm, .int .i64 X.2.1, .int .i64 X.2.2.1, .int .i64 X.2.2.2] 73)) := (Below.refl _ _).alloc (Nat.le_refl _) _
        obtain ⟨W3, hW3⟩ : ∃ W3, W3 = wr.alloc (.cells #[.int .i64 X.1, .string nm, .int .i64 X.2.1, .int .i64 X.2.2.1, .int .i64 X.2.2.2] 73) := ⟨_, rfl⟩
        rw [← hW3] at T3 b3
        have HW3 := Lib.hid hW3
        have HT3 := Lib.hid T3
        have B3 := Lib.hid b3
        have K := Lib.hid (HC.out X W3 (HB.out.trans (apt_below b b3)))
        clear hX hW3 T3 b3
        go_upto_region 8 with fail
        rw [← HW3.out]
        clear HW3 k1 k2 k3 k4 k5
        obtain ⟨t0, t1, t2, t3, t4⟩ := HT3.out
        have tl := ecell_in t0
        go_wp2_with fail
        clear t0 t1 t2 t3 t4 tl
        refine K.out.mono ?_
        rintro e w4 ⟨rfl, hb⟩
        have B4 := Lib.hid (B3.out.trans (hb.mono B3.out.size))
        obtain ⟨t0, t1, t2, t3, t4⟩ := HT3.out.on hb
        have tl := ecell_in t0
        clear hb K B3 HT3
        have H4 := Lib.hid (HHd.out.on B4.out)
        have A4 := Lib.hid (HB.out.trans (apt_below b B4.out))
        rcases hp : p X with _ | _
        · have N1 := Lib.hid (HD.out.keep hlt (by rw [← HX.out]; exact hp))
          rw [← HX.out] at N1
          have SH := Lib.hid (H4.out.store (i := i) (by omega) X)
          have SA := Lib.hid (A4.out.trans (apt_cells b (encR nm X) (off + i * 5) w4))
          have TH := Lib.hid (H4.out.there (i := i) (by omega))
          go_wp2_with (refine rg_store nm ?s1 (.tmp 33) (.tmp 32) ?s2 ?s9 b (off + i * 5) X ?s3 ?s4 ?s6 ?s5; (case s1 => rfl); (case s2 => rfl); (case s9 => rfl); (case s3 => rfl); (case s4 => rfl); (case s6 => exact TH.out))
          go_roundw
          case rel => exact ⟨i + 1, j + 1, d.set i X, by go_num, by go_num, N1.out, SH.out, SA.out⟩
          case measure => simp [intOf]; omega
        · have N1 := Lib.hid (HD.out.skip hlt (by rw [← HX.out]; exact hp))
          go_wp2
          go_roundw
          case rel => exact ⟨i, j + 1, d, rfl, by go_num, N1.out, H4.out, A4.out⟩
          case measure => simp [intOf]; omega
      · obtain rfl : j = l.length := by omega
        have hcl : ∀ ty, (Builtin.clear_ #[75] ty #[.slice (some ⟨b, off + i * 5, none⟩) (l.length - i) (cap - i)]).run Tryz.prog wr = .ok (.tuple #[]) (wr.setCells b (off + i * 5) (zrs (l.length - i))) :=
          fun ty => run_clear5 wr ty b (off + i * 5) _ _ (by omega) (fun t ht => (HHd.out.cellsAt i t (by omega)).1) (fun t ht => (HHd.out.cellsAt i t (by omega)).2)
        have S := HHd.out.cut i (zrs (l.length - i))
        have N := HD.out.done
        have N2 : Hid ((l.filter (fun x => !p x)).length = i) := Lib.hid (by rw [← N, List.length_take]; omega)
        rw [N] at S
        have SH := Lib.hid S
        have SA := Lib.hid (HB.out.trans (apt_cells b (zrs (l.length - i)) (off + i * 5) wr))
        clear S N
        go_wp2
        go_ret
        exact ⟨by rw [N2.out]; rfl, SH.out, SA.out⟩
theorem delR_none (a : Option Addr) (cap : Nat) (c1 c2 : Value) (w : World) :
    Calls Tryz.prog 109 #[.slice a 0 cap, .func (.func 108) #[] #[c1, c2]] w fun e w' => e = .returned (.slice a 0 cap) ∧ w' = w := by
  have KI : Calls Tryz.prog 162 #[.slice a 0 cap, .func (.func 108) #[] #[c1, c2]] w fun e w' => e = .returned (.int .i64 (-1)) ∧ w' = w := by
    go_enter Tryz.func162, Tryz.ntmps162
    go_wp2
    go_loop [8] (fun i => i = .int .i64 0) (fun _ => 0)
    case atStart => rfl
    case round =>
      subst hrel
      go_wp2
      go_ret
      exact ⟨rfl, rfl⟩
  have HK := Lib.hid KI
  clear KI
  go_enter Tryz.func109, Tryz.ntmps109
  go_wp2_with fail
  refine HK.out.mono ?_
  rintro e w1 ⟨rfl, hw⟩
  replace hw := hw.symm
  subst hw
  go_wp2
  go_ret
  exact ⟨rfl, rfl⟩
/-- Is a ring out of a stretch? -/
def ouB (fr t : Int) (x : Rg) : Bool := decide (x.1 < fr ∨ t ≤ x.1)
theorem isOut_any (nm : ByteArray) (fr t : Int) (x : Rg) (b1 b2 : Nat) (w : World) (h1 : w.cell? ⟨b1, 0, none⟩ = some (.int .i64 fr)) (h2 : w.cell? ⟨b2, 0, none⟩ = some (.int .i64 t)) :
    Calls Tryz.prog 108 #[.agg #[.int .i64 x.1, .string nm, .int .i64 x.2.1, .int .i64 x.2.2.1, .int .i64 x.2.2.2], .pointer (some ⟨b1, 0, none⟩), .pointer (some ⟨b2, 0, none⟩)] w fun e w' => e = .returned (.bool (ouB fr t x)) ∧ Below w.heap.size w w' := by
  have B0 := (Below.refl w.heap.size w).alloc (Nat.le_refl _) (.cells #[.int .i64 x.1, .string nm, .int .i64 x.2.1, .int .i64 x.2.2.1, .int .i64 x.2.2.2] 73)
  have HB := Lib.hid B0
  have c1 := (B0.cell (p := ⟨b1, 0, none⟩) (ecell_in h1)).trans h1
  have c2 := (B0.cell (p := ⟨b2, 0, none⟩) (ecell_in h2)).trans h2
  have l1 := ecell_in h1
  have l2 := ecell_in h2
  have N1 : Hid (x.1 < fr → ouB fr t x = true) := Lib.hid (fun q => decide_eq_true (Or.inl q))
  have N2 : Hid (t ≤ x.1 → ouB fr t x = true) := Lib.hid (fun q => decide_eq_true (Or.inr q))
  have N3 : Hid (¬ x.1 < fr → ¬ t ≤ x.1 → ouB fr t x = false) := Lib.hid (fun q k => decide_eq_false (by omega))
  generalize ouB fr t x = R at N1 N2 N3 ⊢
  clear B0 h1 h2
  by_cases g1 : x.1 < fr
  · have N := Lib.hid (N1.out g1)
    clear N1 N2 N3
    go_enter Tryz.func108, Tryz.ntmps108
    go_wp2
    go_ret
    exact ⟨ret_bool N.out.symm, HB.out⟩
  by_cases g2 : t ≤ x.1
  · have N := Lib.hid (N2.out g2)
    clear N1 N2 N3
    go_enter Tryz.func108, Tryz.ntmps108
    go_wp2
    go_ret
    exact ⟨ret_bool N.out.symm, HB.out⟩
  · have N := Lib.hid (N3.out g1 g2)
    clear N1 N2 N3
    go_enter Tryz.func108, Tryz.ntmps108
    go_wp2
    go_ret
    exact ⟨ret_bool N.out.symm, HB.out⟩
end Go.Proofs.YtoncfgfjdlgfcaaGreatDoor
namespace Go.Proofs.YtoncfgfjdlgfcaaGreatDoor
open Go.RowKit Cal Txt

/-- How two texts stand. -/
def cms (a b : ByteArray) : Int := if Op.bytesLess a.toList b.toList = true then -1 else if (Op.bytesLess a.toList b.toList || a.toList == b.toList) = false then 1 else 0
theorem less_self : ∀ l : List UInt8, Op.bytesLess l l = false
  | [] => rfl
  | a :: l => by
    have ih := less_self l
    simp [Op.bytesLess, ih]
theorem cms_self (a : ByteArray) : cms a a = 0 := by
  unfold cms
  rw [less_self]
  simp
theorem isNaNS_any (x : ByteArray) (w : World) : Calls Tryz.prog 113 #[.string x] w fun e w' => e = .returned (.bool false) ∧ w' = w := by
  go_enter Tryz.func113, Tryz.ntmps113
  go_wp2
  go_ret
  exact ⟨ret_bool (by simp), rfl⟩
theorem compareS_any (a b : ByteArray) (w : World) : Calls Tryz.prog 67 #[.string a, .string b] w fun e w' => e = .returned (.int .i64 (cms a b)) ∧ w' = w := by
  have N1 : Hid (Op.bytesLess a.toList b.toList = true → cms a b = -1) := Lib.hid (fun h => if_pos h)
  have N2 : Hid (Op.bytesLess a.toList b.toList = false → (a.toList == b.toList) = false → cms a b = 1) := Lib.hid (fun h k => by unfold cms; rw [if_neg (by rw [h]; decide), if_pos (by rw [h, k]; rfl)])
  have N3 : Hid (Op.bytesLess a.toList b.toList = false → (a.toList == b.toList) = true → cms a b = 0) := Lib.hid (fun h k => by unfold cms; rw [if_neg (by rw [h]; decide), if_neg (by rw [h, k]; decide)])
  generalize cms a b = R at N1 N2 N3 ⊢
  rcases h1 : Op.bytesLess a.toList b.toList with _ | _
  · rcases h2 : (a.toList == b.toList) with _ | _
    · have E := Lib.hid (N2.out h1 h2)
      clear N1 N2 N3
      go_enter Tryz.func67, Tryz.ntmps67
      go_wp2_with (go_at_call 113; refine (isNaNS_any _ _).mono ?_; rintro e w' ⟨rfl, rfl⟩)
      go_ret
      exact ⟨ret_int E.out.symm, rfl⟩
    · have E := Lib.hid (N3.out h1 h2)
      clear N1 N2 N3
      go_enter Tryz.func67, Tryz.ntmps67
      go_wp2_with (go_at_call 113; refine (isNaNS_any _ _).mono ?_; rintro e w' ⟨rfl, rfl⟩)
      go_ret
      exact ⟨ret_int E.out.symm, rfl⟩
  · have E := Lib.hid (N1.out h1)
    clear N1 N2 N3
    go_enter Tryz.func67, Tryz.ntmps67
    go_wp2_with (go_at_call 113; refine (isNaNS_any _ _).mono ?_; rintro e w' ⟨rfl, rfl⟩)
    go_ret
    exact ⟨ret_int E.out.symm, rfl⟩
/-- The first of a list that is not 0, or 0. -/
def orL : List Int → Int
  | [] => 0
  | x :: l => if x = 0 then orL l else x
theorem orL_at : ∀ (l : List Int) (k : Nat), k < l.length → (∀ j, j < k → l.getD j 0 = 0) → ¬ l.getD k 0 = 0 → orL l = l.getD k 0
  | x :: l, 0, _, _, h => by
    have h' : ¬ x = 0 := h
    unfold orL
    rw [if_neg h']
    rfl
  | x :: l, k + 1, hk, hz, h => by
    have h0 : x = 0 := hz 0 (by omega)
    unfold orL
    rw [if_pos h0]
    exact orL_at l k (by simpa using hk) (fun j hj => hz (j + 1) (by omega)) h
theorem orL_end : ∀ (l : List Int), (∀ j, j < l.length → l.getD j 0 = 0) → orL l = 0
  | [], _ => rfl
  | x :: l, hz => by
    have h0 : x = 0 := hz 0 (by simp)
    unfold orL
    rw [if_pos h0]
    exact orL_end l (fun j hj => hz (j + 1) (by simp; omega))
set_option maxRecDepth 100000 in
theorem orL_any (xs : List Int) (b : Nat) (w : World) (hc : ∀ i, i < xs.length → w.cell? ⟨b, i, none⟩ = some (.int .i64 (xs.getD i 0))) (hl : xs.length ≤ 100) :
    Calls Tryz.prog 65 #[.slice (some ⟨b, 0, none⟩) xs.length xs.length] w fun e w' => e = .returned (.int .i64 (orL xs)) ∧ w' = w := by
  have HC := Lib.hid hc
  have NA := Lib.hid (orL_at xs)
  have NE := Lib.hid (orL_end xs)
  generalize orL xs = R at NA NE ⊢
  clear hc
  go_enter Tryz.func65, Tryz.ntmps65
  go_wp2_with fail
  go_loop [5, 8] (fun _ i => ∃ k : Nat, k ≤ xs.length ∧ i = .int .i64 k ∧ ∀ j, j < k → xs.getD j 0 = 0) (fun _ i => xs.length - (intOf i).toNat)
  case atStart => exact ⟨0, by omega, rfl, fun j q => by omega⟩
  case round =>
    obtain ⟨k, hk, rfl, p⟩ := hrel
    have HP := Lib.hid p
    clear p
    by_cases hlt : k < xs.length
    · have c := HC.out k hlt
      have bl := ecell_in c
      have NK := Lib.hid (NA.out k hlt HP.out)
      have PK : Hid (xs.getD k 0 = 0 → ∀ j, j < k + 1 → xs.getD j 0 = 0) := Lib.hid (fun z j hj => by
        rcases (by omega : j < k ∨ j = k) with q | q
        · exact HP.out j q
        · rw [q]; exact z)
      generalize xs.getD k 0 = x at c NK PK
      rcases hx : (x != 0) with _ | _
      · have P2 := Lib.hid (PK.out (by simpa using hx))
        go_wp2
        go_round
        case rel => exact ⟨k + 1, by omega, by go_num, P2.out⟩
        case measure => simp [intOf]; omega
      · have E := Lib.hid (NK.out (by simpa using hx))
        go_wp2
        go_ret
        exact ⟨ret_int E.out.symm, rfl⟩
    · have E := Lib.hid (NE.out (fun j hj => HP.out j (by omega)))
      go_wp2
      go_ret
      exact ⟨ret_int E.out.symm, rfl⟩
/-- How two rings stand. -/
def cmR (m n : ByteArray) (x y : Rg) : Int := orL [cmi x.1 y.1, cms m n, cmi x.2.1 y.2.1, cmi x.2.2.1 y.2.2.1, cmi x.2.2.2 y.2.2.2]
set_option maxRecDepth 100000 in
set_option maxHeartbeats 8000000 in
theorem order_any (m n : ByteArray) (x y : Rg) (w : World) :
    Calls Tryz.prog 29 #[.agg #[.int .i64 x.1, .string m, .int .i64 x.2.1, .int .i64 x.2.2.1, .int .i64 x.2.2.2], .agg #[.int .i64 y.1, .string n, .int .i64 y.2.1, .int .i64 y.2.2.1, .int .i64 y.2.2.2]] w fun e w' => e = .returned (.int .i64 (cmR m n x y)) ∧ ∃ q os', w' = Sort.grow (w.drewN q) os' := by
  obtain ⟨W1, hW1⟩ : ∃ W1, W1 = w.alloc (.cells #[.int .i64 x.1, .string m, .int .i64 x.2.1, .int .i64 x.2.2.1, .int .i64 x.2.2.2] 73) := ⟨_, rfl⟩
  have g0 : RBx m W1 w.heap.size x := by rw [hW1]; exact RBx.new m w x _
  have z1 : W1.heap.size = w.heap.size + 1 := by rw [hW1, World.size_alloc]
  obtain ⟨W0, hW0⟩ : ∃ W0, W0 = W1.alloc (.cells #[.int .i64 y.1, .string n, .int .i64 y.2.1, .int .i64 y.2.2.1, .int .i64 y.2.2.2] 73) := ⟨_, rfl⟩
  have g1 : RBx n W0 (w.heap.size + 1) y := by rw [hW0, ← z1]; exact RBx.new n W1 y _
  have f0 : RBx m W0 w.heap.size x := g0.on (by rw [hW0]; exact (Below.refl _ _).alloc (Nat.le_refl _) _)
  have hW : W0 = (w.alloc (.cells #[.int .i64 x.1, .string m, .int .i64 x.2.1, .int .i64 x.2.2.1, .int .i64 x.2.2.2] 73)).alloc (.cells #[.int .i64 y.1, .string n, .int .i64 y.2.1, .int .i64 y.2.2.1, .int .i64 y.2.2.2] 73) := by rw [hW0, hW1]
  have HS : Hid (∀ X, Below W0.heap.size W0 X → (X.cell? ⟨w.heap.size, 0, none⟩ = some (.int .i64 x.1) ∧ X.cell? ⟨w.heap.size, 1, none⟩ = some (.string m) ∧ X.cell? ⟨w.heap.size, 2, none⟩ = some (.int .i64 x.2.1) ∧ X.cell? ⟨w.heap.size, 3, none⟩ = some (.int .i64 x.2.2.1) ∧ X.cell? ⟨w.heap.size, 4, none⟩ = some (.int .i64 x.2.2.2)) ∧ X.cell? ⟨w.heap.size + 1, 0, none⟩ = some (.int .i64 y.1) ∧ X.cell? ⟨w.heap.size + 1, 1, none⟩ = some (.string n) ∧ X.cell? ⟨w.heap.size + 1, 2, none⟩ = some (.int .i64 y.2.1) ∧ X.cell? ⟨w.heap.size + 1, 3, none⟩ = some (.int .i64 y.2.2.1) ∧ X.cell? ⟨w.heap.size + 1, 4, none⟩ = some (.int .i64 y.2.2.2)) := Lib.hid (fun X q => ⟨f0.on q, g1.on q⟩)
  have HW := Lib.hid hW
  have CT : Hid (cmR m n x y = orL [cmi x.1 y.1, cms m n, cmi x.2.1 y.2.1, cmi x.2.2.1 y.2.2.1, cmi x.2.2.2 y.2.2.2]) := Lib.hid rfl
  generalize cmR m n x y = R at CT ⊢
  clear g0 g1 z1 f0 hW hW0 hW1 W1
  have KO : Hid (∀ X, X.cell? ⟨W0.heap.size, 0, none⟩ = some (.int .i64 (cmi x.1 y.1)) → X.cell? ⟨W0.heap.size, 1, none⟩ = some (.int .i64 (cms m n)) → X.cell? ⟨W0.heap.size, 2, none⟩ = some (.int .i64 (cmi x.2.1 y.2.1)) → X.cell? ⟨W0.heap.size, 3, none⟩ = some (.int .i64 (cmi x.2.2.1 y.2.2.1)) → X.cell? ⟨W0.heap.size, 4, none⟩ = some (.int .i64 (cmi x.2.2.2 y.2.2.2)) →
      Calls Tryz.prog 65 #[.slice (some ⟨W0.heap.size, 0, none⟩) 5 5] X fun e w' => e = .returned (.int .i64 R) ∧ w' = X) := Lib.hid (fun X h0 h1 h2 h3 h4 => by
    rw [CT.out]
    exact orL_any [cmi x.1 y.1, cms m n, cmi x.2.1 y.2.1, cmi x.2.2.1 y.2.2.1, cmi x.2.2.2 y.2.2.2] W0.heap.size X (fun i hi => by
      have hi' : i < 5 := hi
      rcases (by omega : i = 0 ∨ i = 1 ∨ i = 2 ∨ i = 3 ∨ i = 4) with rfl | rfl | rfl | rfl | rfl
      · exact h0
      · exact h1
      · exact h2
      · exact h3
      · exact h4) (by simp))
  go_enter Tryz.func29, Tryz.ntmps29
  go_upto_region 1 with fail
  rw [← HW.out]
  go_region_held3 (fun X => (X.cell? ⟨w.heap.size, 0, none⟩ = some (.int .i64 x.1) ∧ X.cell? ⟨w.heap.size, 1, none⟩ = some (.string m) ∧ X.cell? ⟨w.heap.size, 2, none⟩ = some (.int .i64 x.2.1) ∧ X.cell? ⟨w.heap.size, 3, none⟩ = some (.int .i64 x.2.2.1) ∧ X.cell? ⟨w.heap.size, 4, none⟩ = some (.int .i64 x.2.2.2)) ∧ X.cell? ⟨w.heap.size + 1, 0, none⟩ = some (.int .i64 y.1) ∧ X.cell? ⟨w.heap.size + 1, 1, none⟩ = some (.string n) ∧ X.cell? ⟨w.heap.size + 1, 2, none⟩ = some (.int .i64 y.2.1) ∧ X.cell? ⟨w.heap.size + 1, 3, none⟩ = some (.int .i64 y.2.2.1) ∧ X.cell? ⟨w.heap.size + 1, 4, none⟩ = some (.int .i64 y.2.2.2))
    (first | exact HS.out _ (Below.drew (Below.refl _ W0)) | exact HS.out _ (Below.alloc (Below.drew (Below.refl _ W0)) (Nat.le_refl _) _) | exact HS.out _ (Below.drew (Below.alloc (Below.refl _ W0) (Nat.le_refl _) _)))
    (first
    | (go_at_call 66; refine (compare_any _ _ _).mono ?_; rintro e w' ⟨rfl, hw⟩; replace hw := hw.symm; subst hw)
    | (go_at_call 67; refine (compareS_any _ _ _).mono ?_; rintro e w' ⟨rfl, hw⟩; replace hw := hw.symm; subst hw)
    | (go_at_call 65; refine (KO.out _ (by simp) (by simp) (by simp) (by simp) (by simp)).mono ?_; rintro e w' ⟨rfl, hw⟩; replace hw := hw.symm; subst hw))
  have EW : Hid (∃ q os', (W0.alloc (.cells #[.int .i64 (cmi x.1 y.1), .int .i64 (cms m n), .int .i64 (cmi x.2.1 y.2.1), .int .i64 (cmi x.2.2.1 y.2.2.1), .int .i64 (cmi x.2.2.2 y.2.2.2)] 3)).drew = Sort.grow (w.drewN q) os') := Lib.hid (by
    rw [HW.out]
    refine ⟨1, #[(.cells #[.int .i64 x.1, .string m, .int .i64 x.2.1, .int .i64 x.2.2.1, .int .i64 x.2.2.2] 73)] ++ (#[(.cells #[.int .i64 y.1, .string n, .int .i64 y.2.1, .int .i64 y.2.2.1, .int .i64 y.2.2.2] 73)] ++ #[(.cells #[.int .i64 (cmi x.1 y.1), .int .i64 (cms m n), .int .i64 (cmi x.2.1 y.2.1), .int .i64 (cmi x.2.2.1 y.2.2.1), .int .i64 (cmi x.2.2.2 y.2.2.2)] 3)]), ?_⟩
    show (((w.drewN 1).alloc (.cells #[.int .i64 x.1, .string m, .int .i64 x.2.1, .int .i64 x.2.2.1, .int .i64 x.2.2.2] 73)).alloc (.cells #[.int .i64 y.1, .string n, .int .i64 y.2.1, .int .i64 y.2.2.1, .int .i64 y.2.2.2] 73)).alloc (.cells #[.int .i64 (cmi x.1 y.1), .int .i64 (cms m n), .int .i64 (cmi x.2.1 y.2.1), .int .i64 (cmi x.2.2.1 y.2.2.1), .int .i64 (cmi x.2.2.2 y.2.2.2)] 3) = _
    rw [Sort.alloc_eq_grow, Sort.alloc_eq_grow, Sort.alloc_eq_grow, Sort.grow_grow, Sort.grow_grow])
  go_wp2
  go_ret
  exact ⟨rfl, EW.out⟩
end Go.Proofs.YtoncfgfjdlgfcaaGreatDoor
namespace Go.Proofs.YtoncfgfjdlgfcaaGreatDoor
open Go.RowKit Cal Txt

/-- Which ring is ahead. -/
def ltR (x y : Rg) : Prop := x.1 < y.1 ∨ (x.1 = y.1 ∧ (x.2.1 < y.2.1 ∨ (x.2.1 = y.2.1 ∧ (x.2.2.1 < y.2.2.1 ∨ (x.2.2.1 = y.2.2.1 ∧ x.2.2.2 < y.2.2.2)))))
instance (x y : Rg) : Decidable (ltR x y) := by unfold ltR; infer_instance
theorem cmi_z {a b : Int} : cmi a b = 0 ↔ a = b := by unfold cmi; split <;> (try split) <;> omega
theorem cmi_n {a b : Int} : cmi a b < 0 ↔ a < b := by unfold cmi; split <;> (try split) <;> omega
theorem cmR_n (nm : ByteArray) (x y : Rg) : cmR nm nm x y < 0 ↔ ltR x y := by
  unfold cmR ltR
  simp only [orL, cms_self, cmi_z, if_true]
  split
  · rename_i h1
    split
    · rename_i h2
      split
      · rename_i h3
        split
        · omega
        · rw [cmi_n]; omega
      · rw [cmi_n]; omega
    · rw [cmi_n]; omega
  · rw [cmi_n]; omega
theorem cmR_lt (nm : ByteArray) (x y : Rg) : ltOf (cmR nm nm) x y = decide (ltR x y) := by
  unfold ltOf
  rw [Bool.eq_iff_iff, decide_eq_true_iff, decide_eq_true_iff]
  exact cmR_n nm x y
theorem cmR_swo (nm : ByteArray) : Sort.SWO (ltOf (cmR nm nm)) where
  irrefl x := by rw [cmR_lt]; simp [ltR]
  trans x y z h1 h2 := by rw [cmR_lt] at *; simp only [decide_eq_true_iff] at *; unfold ltR at *; omega
  ntrans x y z h1 h2 := by rw [cmR_lt] at *; simp only [decide_eq_false_iff_not] at *; unfold ltR at *; omega
/-- What is sorted. -/
def SrrA (nm : ByteArray) (n0 : Nat) (w : World) (v : Value) (l : List Rg) (e : Ending) (w' : World) : Prop := e = .returned (.tuple #[]) ∧ ∃ b, l.Perm b ∧ b.Pairwise (fun x y => ¬ ltR y x) ∧ Below n0 w w' ∧ w'.ownsRow n0 73 5 v l.length (b.flatMap (encR nm))
theorem sortR_any (nm : ByteArray) (l : List Rg) (n0 : Nat) (v : Value) (w : World) (h : w.ownsRow n0 73 5 v l.length (l.flatMap (encR nm))) (hn : n0 ≤ w.heap.size) (hl : l.length ≤ 1000000) :
    Calls Tryz.prog 111 #[v, .func (.func 29) #[] #[]] w (SrrA nm n0 w v l) := by
  rcases (own_openK (encR nm) 5 (fun _ => rfl) (by decide) h).2 with ⟨rfl, rfl⟩ | ⟨g, cap, rfl, hg, hgl, _, hh⟩
  · refine (AnyF.slices_SortFunc_none Tryz.sortRg none 0 (.func (.func 29) #[] #[]) w).mono ?_
    rintro e w' ⟨rfl, rfl⟩
    exact ⟨rfl, [], List.Perm.refl _, by simp, Below.refl _ _, World.ownsRow_nil _ _ _ _⟩
  · have eg : ∀ args w, (callFunc 29 args).run Tryz.prog w = .ok (.enter 29 args) w := enters_of Tryz.func29 (by kernel_rfl) rfl
    have hcon := AnyQ.slices_SortFunc Tryz.sortRg 5 Tryz.isAgg73 Tryz.sizeOf73 (encR nm) (fun _ => rfl) (fun x u hu => by simp [encR] at hu; rcases hu with rfl | rfl | rfl | rfl | rfl <;> rfl) (cmR nm nm) (cmR_swo nm) 29 #[] g 0 cap l.toArray w eg (fun _ _ _ _ x y => order_any nm nm x y _) hh hgl (by simp; omega)
    refine hcon.mono ?_
    rintro e w' ⟨rfl, d', n, os, hp, hs, rfl⟩
    have hsz : d'.size = l.toArray.size := hp.1
    refine ⟨rfl, d'.toList, ?_, ?_, ?_, ?_⟩
    · have := hp.2.2
      rw [← hsz, Array.extract_size, hsz, Array.extract_size] at this
      simpa using this.symm
    · rw [List.pairwise_iff_getElem]
      intro i j hi hj hij
      have := hs i j (Nat.zero_le _) hij (by rw [← hsz]; simpa using hj)
      rw [cmR_lt, getElem!_pos _ i (by simpa using hi), getElem!_pos _ j (by simpa using hj)] at this
      simpa using this
    · exact ((show Below n0 w (Sort.ahead w n) from ⟨rfl, rfl, rfl, Nat.le_refl _, fun _ _ => rfl⟩).trans (belowK hg)).trans (belowG os (by simpa [Sort.putRowK] using hn))
    · exact ow_below (own_putK (encR nm) 5 (fun _ => rfl) (by decide) (q := n) h d' (by simpa using hsz)) (belowG os (Nat.le_refl _))
end Go.Proofs.YtoncfgfjdlgfcaaGreatDoor
namespace Go.Proofs.YtoncfgfjdlgfcaaGreatDoor
open Go.RowKit Cal Txt

/-- The rings of Times that are in a stretch. -/
def rgG (n : Int) (al : List Al) (fr t : Int) (ys : List Tm) : List Rg := ys.flatMap (fun y => (rgO n al y).filter (fun x => !ouB fr t x))
def rgL (a : Int) (l : List (Int × Int)) (e : Evt) (fr t : Int) : List Rg := rgG e.len e.alm fr t (tmA a l e (fr - moA e.len e.alm) (t - leA e.len e.alm))
theorem rgO_mem {n : Int} {al : List Al} {y : Tm} {x : Rg} : x ∈ rgO n al y ↔ ∃ k, k < al.length ∧ ∃ u, u < (al.getD k (0, false, 0, 0)).2.2.1.toNat + 1 ∧ x = rg1 n y k (al.getD k (0, false, 0, 0)) u := by
  unfold rgO rgT rgX
  simp only [List.mem_flatMap, List.mem_range, List.mem_map]
  constructor
  · rintro ⟨k, hk, u, hu, rfl⟩; exact ⟨k, hk, u, hu, rfl⟩
  · rintro ⟨k, hk, u, hu, rfl⟩; exact ⟨k, hk, u, hu, rfl⟩
theorem ouB_no {fr t : Int} {x : Rg} : (!ouB fr t x) = true ↔ fr ≤ x.1 ∧ x.1 < t := by
  unfold ouB
  rw [Bool.not_eq_true', decide_eq_false_iff_not]
  omega
/-- Is something a ring of an event? -/
def isRg (a : Int) (l : List (Int × Int)) (e : Evt) (fr t : Int) (x : Rg) : Prop := ∃ y, (isE e y.1 ∧ ∃ r, rea e y.1 = some r ∧ tim a l e (y.1, r) = some y) ∧ (∃ k, k < e.alm.length ∧ ∃ u, u < (e.alm.getD k (0, false, 0, 0)).2.2.1.toNat + 1 ∧ x = rg1 e.len y k (e.alm.getD k (0, false, 0, 0)) u) ∧ fr ≤ x.1 ∧ x.1 < t
theorem mul_le {u : Nat} {r b : Int} (h0 : 0 ≤ r) (h1 : u < r.toNat + 1) (h2 : 0 ≤ b) : 0 ≤ (u : Int) * b ∧ (u : Int) * b ≤ r * b :=
  ⟨Int.mul_nonneg (by omega) h2, Int.mul_le_mul_of_nonneg_right (by omega) h2⟩
theorem rg1_at {e : Evt} (h : evF e = 0) {y : Tm} {k : Nat} (hk : k < e.alm.length) {u : Nat} (hu : u < (e.alm.getD k (0, false, 0, 0)).2.2.1.toNat + 1) : leA e.len e.alm ≤ (rg1 e.len y k (e.alm.getD k (0, false, 0, 0)) u).1 - y.2.1 ∧ (rg1 e.len y k (e.alm.getD k (0, false, 0, 0)) u).1 - y.2.1 ≤ moA e.len e.alm := by
  have hm := alm_mem hk
  have q := (rea_in h).2.2 _ hm
  have ai := alF_in ((evF_alm h).2 _ hm)
  generalize e.alm.getD k (0, false, 0, 0) = X at hu q ai
  have m := mul_le (b := X.2.2.2) ai.2.1.1 hu ai.2.2.1.1
  unfold lst at q
  unfold rg1
  simp only
  omega
theorem rgL_mem {a : Int} {l : List (Int × Int)} {e : Evt} {fr t : Int} {x : Rg} (h : evF e = 0) (hz : Zo.zf a l = 0) : x ∈ rgL a l e fr t ↔ isRg a l e fr t x := by
  unfold rgL rgG isRg
  simp only [List.mem_flatMap, List.mem_filter]
  constructor
  · rintro ⟨y, hy, hx, hi⟩
    obtain ⟨y1, y2, _, _⟩ := (tmA_mem h hz).1 hy
    exact ⟨y, ⟨y1, y2⟩, rgO_mem.1 hx, ouB_no.1 hi⟩
  · rintro ⟨y, ⟨y1, y2⟩, ⟨k, hk, u, hu, rfl⟩, hi⟩
    have b := rg1_at h (y := y) hk hu
    refine ⟨y, (tmA_mem h hz).2 ⟨y1, y2, ?_, ?_⟩, rgO_mem.2 ⟨k, hk, u, hu, rfl⟩, ouB_no.2 hi⟩ <;> omega
/-- No two rings are the same. -/
theorem tmL_apart {a : Int} {l : List (Int × Int)} {e : Evt} {fr t : Int} (h : evF e = 0) (ho : okS fr t) : (tmL a l e fr t).Pairwise (fun x y => x.1 ≠ y.1) :=
  apart_perm (List.mergeSort_perm _ _).symm (tms_apart h ho)
theorem tmA_apart {a : Int} {l : List (Int × Int)} {e : Evt} {fr t : Int} (h : evF e = 0) : (tmA a l e fr t).Pairwise (fun x y => x.1 ≠ y.1) := by
  unfold tmA
  split
  · rename_i q; exact tmL_apart h (tmA_okS q)
  · exact List.Pairwise.nil
theorem rgO_apart (n : Int) (al : List Al) (y : Tm) : (rgO n al y).Pairwise (fun x z => x ≠ z) := by
  unfold rgO rgT
  rw [List.pairwise_flatMap]
  constructor
  · intro k _
    unfold rgX
    rw [List.pairwise_map]
    exact List.pairwise_lt_range.imp (fun {u v} q z => by
      have := congrArg (fun r : Rg => r.2.2.2) z
      simp [rg1] at this
      omega)
  · exact List.pairwise_lt_range.imp (fun {i j} q x hx z hz e => by
      unfold rgX at hx hz
      obtain ⟨u, _, rfl⟩ := List.mem_map.1 hx
      obtain ⟨v, _, rfl⟩ := List.mem_map.1 hz
      have := congrArg (fun r : Rg => r.2.2.1) e
      simp [rg1] at this
      omega)
theorem rgL_apart {a : Int} {l : List (Int × Int)} {e : Evt} {fr t : Int} (h : evF e = 0) : (rgL a l e fr t).Pairwise (fun x z => x ≠ z) := by
  unfold rgL rgG
  rw [List.pairwise_flatMap]
  refine ⟨fun y _ => (rgO_apart _ _ y).filter _, (tmA_apart h).imp (fun {y y'} q x hx z hz e => ?_)⟩
  obtain ⟨k, _, u, _, rfl⟩ := rgO_mem.1 (List.mem_filter.1 hx).1
  obtain ⟨k', _, u', _, rfl⟩ := rgO_mem.1 (List.mem_filter.1 hz).1
  have := congrArg (fun r : Rg => r.2.1) e
  simp [rg1] at this
  exact q this
theorem ltR_tot {x y : Rg} (h : ¬ ltR y x) (n : x ≠ y) : ltR x y := by
  obtain ⟨x1, x2, x3, x4⟩ := x
  obtain ⟨y1, y2, y3, y4⟩ := y
  unfold ltR at *
  simp only [ne_eq, Prod.mk.injEq] at n
  simp only at *
  omega
theorem rg_ext : ∀ {a b : List Rg}, a.Pairwise ltR → b.Pairwise ltR → (∀ x, x ∈ a ↔ x ∈ b) → a = b
  | [], [], _, _, _ => rfl
  | [], y :: b, _, _, h => absurd ((h y).2 List.mem_cons_self) (by simp)
  | x :: a, [], _, _, h => absurd ((h x).1 List.mem_cons_self) (by simp)
  | x :: a, y :: b, ha, hb, h => by
    obtain ⟨a1, a2⟩ := List.pairwise_cons.1 ha
    obtain ⟨b1, b2⟩ := List.pairwise_cons.1 hb
    have e : x = y := by
      rcases List.mem_cons.1 ((h x).1 List.mem_cons_self) with q | q
      · exact q
      · rcases List.mem_cons.1 ((h y).2 List.mem_cons_self) with q2 | q2
        · exact q2.symm
        · have l1 := b1 x q
          have l2 := a1 y q2
          unfold ltR at l1 l2
          omega
    subst e
    congr 1
    refine rg_ext a2 b2 (fun z => ⟨fun q => ?_, fun q => ?_⟩)
    · rcases List.mem_cons.1 ((h z).1 (List.mem_cons_of_mem _ q)) with e | e
      · subst e; have := a1 z q; unfold ltR at this; omega
      · exact e
    · rcases List.mem_cons.1 ((h z).2 (List.mem_cons_of_mem _ q)) with e | e
      · subst e; have := b1 z q; unfold ltR at this; omega
      · exact e
/-- The rings, in order. -/
def rgS (a : Int) (l : List (Int × Int)) (e : Evt) (fr t : Int) : List Rg := (rgL a l e fr t).mergeSort (fun x y => decide (¬ ltR y x))
theorem apart_permR {a b : List Rg} (h : a.Perm b) (hp : a.Pairwise (fun x z => x ≠ z)) : b.Pairwise (fun x z => x ≠ z) := h.pairwise_iff (fun q => fun z => q z.symm) |>.1 hp
theorem sorted_lt {b : List Rg} (h1 : b.Pairwise (fun x y => ¬ ltR y x)) (h2 : b.Pairwise (fun x y => x ≠ y)) : b.Pairwise ltR := (h1.and h2).imp (fun q => ltR_tot q.1 q.2)
theorem rgS_rise {a : Int} {l : List (Int × Int)} {e : Evt} {fr t : Int} (h : evF e = 0) : (rgS a l e fr t).Pairwise ltR := by
  refine sorted_lt ?_ (apart_permR (List.mergeSort_perm _ _).symm (rgL_apart h))
  have := List.pairwise_mergeSort (le := fun x y : Rg => decide (¬ ltR y x)) (fun x y z q1 q2 => by unfold ltR at *; simp at *; omega) (fun x y => by unfold ltR; simp; omega) (rgL a l e fr t)
  exact this.imp (fun q => by simpa using q)
theorem rgS_mem {a : Int} {l : List (Int × Int)} {e : Evt} {fr t : Int} {x : Rg} (h : evF e = 0) (hz : Zo.zf a l = 0) : x ∈ rgS a l e fr t ↔ isRg a l e fr t x := by
  unfold rgS
  rw [List.mem_mergeSort, rgL_mem h hz]
theorem rgS_len (a : Int) (l : List (Int × Int)) (e : Evt) (fr t : Int) : (rgS a l e fr t).length = (rgL a l e fr t).length := by unfold rgS; rw [List.length_mergeSort]
/-- What is sorted is that list. -/
theorem rgS_of {a : Int} {l : List (Int × Int)} {e : Evt} {fr t : Int} (h : evF e = 0) {b : List Rg} (hp : (rgL a l e fr t).Perm b) (hs : b.Pairwise (fun x y => ¬ ltR y x)) : b = rgS a l e fr t := by
  refine rg_ext (sorted_lt hs (apart_permR hp (rgL_apart h))) (rgS_rise h) (fun x => ?_)
  unfold rgS
  rw [List.mem_mergeSort]
  exact hp.mem_iff.symm
/-- What Rings tells. -/
def raF (a : Int) (l : List (Int × Int)) (e : Evt) (fr t : Int) : Int := if ¬ tcF a l e fr t = 0 then tcF a l e fr t else if 400 < (rgS a l e fr t).length then 4 else 0
def raL (a : Int) (l : List (Int × Int)) (e : Evt) (fr t : Int) : List Rg := if raF a l e fr t = 0 then rgS a l e fr t else []
/-- How long the lists can be. -/
theorem tmA_len {a : Int} {l : List (Int × Int)} {e : Evt} {fr t : Int} (h : evF e = 0) : (tmA a l e fr t).length ≤ 200200 := by
  unfold tmA
  split
  · unfold tmL
    rw [List.length_mergeSort]
    unfold tms
    exact Nat.le_trans (List.length_filterMap_le _ _) (mom_len h)
  · simp
theorem rgG_len {e : Evt} (h : evF e = 0) {fr t : Int} : ∀ (ys : List Tm), (rgG e.len e.alm fr t ys).length ≤ 24 * ys.length
  | [] => by simp [rgG]
  | y :: ys => by
    have ih := rgG_len h (fr := fr) (t := t) ys
    unfold rgG at *
    rw [List.flatMap_cons, List.length_append, List.length_cons]
    have a1 := List.length_filter_le (fun x => !ouB fr t x) (rgO e.len e.alm y)
    have a2 := rgT_len (n := e.len) (y := y) (evF_alm h).2 (k := e.alm.length) (Nat.le_refl _)
    have a3 := (evF_alm h).1
    have a4 : (rgO e.len e.alm y).length = (rgT e.len e.alm y e.alm.length).length := rfl
    omega
theorem rgG_snoc (n : Int) (al : List Al) (fr t : Int) (ys : List Tm) (k : Nat) (h : k < ys.length) : rgG n al fr t (ys.take (k + 1)) = rgG n al fr t (ys.take k) ++ (rgO n al (ys.getD k (0, 0, 0))).filter (fun x => !ouB fr t x) := by
  unfold rgG
  rw [List.take_succ_eq_append_getElem h, List.flatMap_append, List.getD_eq_getElem?_getD, List.getElem?_eq_getElem h]
  simp
end Go.Proofs.YtoncfgfjdlgfcaaGreatDoor
namespace Go.Proofs.YtoncfgfjdlgfcaaGreatDoor
open Go.RowKit Cal Txt

/-- What is told: rings and a fault. -/
def RaA (nm : ByteArray) (w : World) (l : List Rg) (f : Int) (x : Ending) (w' : World) : Prop := ∃ u, x = .returned (.tuple #[u, fault f]) ∧ Below w.heap.size w w' ∧ w'.ownsRow w.heap.size 73 5 u l.length (l.flatMap (encR nm))
theorem tm_mem4 {l : List Tm} {k : Nat} (h : k < l.length) : l.getD k (0, 0, 0) ∈ l := by rw [List.getD_eq_getElem?_getD, List.getElem?_eq_getElem h]; exact List.getElem_mem h
theorem own_form {nm : ByteArray} {w : World} {n0 n : Nat} {v : Value} {l : List Rg} (h : w.ownsRow n0 73 5 v n (l.flatMap (encR nm))) : ∃ a cap, v = .slice a l.length cap := (own_rowK (enc := encR nm) (k := 5) (fun _ => rfl) (by decide) h).form
theorem own_apt {nm : ByteArray} {w W : World} {n0 n g : Nat} {v : Value} {l : List Rg} (h : w.ownsRow n0 73 5 v n (l.flatMap (encR nm))) (q : Apt g w W) (hg : w.heap.size ≤ g ∨ v.ownBlock ≠ some g) : W.ownsRow n0 73 5 v n (l.flatMap (encR nm)) := by
  refine ⟨h.1, ?_⟩
  rcases h.2 with z | ⟨b, cap, cur, hv, hb, hc, r⟩
  · exact Or.inl z
  · have hlt : b < w.heap.size := by
      rcases Nat.lt_or_ge b w.heap.size with k | k
      · exact k
      · rw [Array.getElem?_eq_none k] at hc; cases hc
    refine Or.inr ⟨b, cap, cur, hv, hb, (q.block b hlt ?_).trans hc, r⟩
    intro e
    subst e
    rcases hg with hg | hg
    · omega
    · rw [hv] at hg; exact hg rfl
theorem app5_any {nm : ByteArray} {w : World} {n0 : Nat} {v vo : Value} {l mo : List Rg} (h : w.ownsRow n0 73 5 v l.length (l.flatMap (encR nm))) (hm : RowK (encR nm) w vo mo) (hn : n0 ≤ w.heap.size) (hl : l.length + mo.length ≤ 1000000000) :
    ∃ v' w', (∀ ty, (Builtin.append_ #[75, 75] ty #[v, vo]).run Tryz.prog w = .ok v' w') ∧ w'.ownsRow n0 73 5 v' (l ++ mo).length ((l ++ mo).flatMap (encR nm)) ∧ Below n0 w w' :=
  appK_any (enc := encR nm) (k := 5) (fun _ => rfl) (by decide) (fun x u hu => by simp [encR] at hu; rcases hu with rfl | rfl | rfl | rfl | rfl <;> rfl) Tryz.underlying75 info_rg rfl (by decide) h hm hn hl
/-- The fault of the rings of a stretch that is right: they are too many. -/
def waF (a : Int) (l : List (Int × Int)) (e : Evt) (fr t : Int) : Int := if 400 < (rgS a l e fr t).length then 4 else 0
/-- The rings that are told of it. -/
def waL (a : Int) (l : List (Int × Int)) (e : Evt) (fr t : Int) : List Rg := if waF a l e fr t = 0 then rgS a l e fr t else []
set_option maxRecDepth 100000 in
set_option maxHeartbeats 8000000 in
theorem alwin_any (a : Int) (l : List (Int × Int)) (v : Value) (e : Evt) (s : Evs) (fr t : Int) (w : World) (hz : ZoneIn w v a l) (hv : EvB w e s) (hT : Tab w) (ez : ezF a l e = 0) (sb1 : 1 ≤ fr) (sb2 : fr ≤ 157785120) (sb3 : 1 ≤ t) (sb4 : t ≤ 157785120) :
    Calls Tryz.prog 64 #[v, .agg (ecells e s), .int .i64 fr, .int .i64 t] w (RaA e.name w (waL a l e fr t) (waF a l e fr t)) := by
  have HZ := Lib.hid (fun W (q : Below w.heap.size w W) => hz.on q)
  obtain ⟨sa, sc, rfl⟩ := hz.form
  obtain ⟨W2, hW2, b2, z2, Z2, R2⟩ := two_boxes w a l sa sc e s
  have b3 : Below W2.heap.size W2 (W2.alloc (.cells #[.int .i64 fr] 3)) := (Below.refl _ _).alloc (Nat.le_refl _) _
  have z3 : (W2.alloc (.cells #[.int .i64 fr] 3)).heap.size = w.heap.size + 3 := by rw [World.size_alloc, z2]
  have f3 : (W2.alloc (.cells #[.int .i64 fr] 3)).cell? ⟨w.heap.size + 2, 0, none⟩ = some (.int .i64 fr) := by rw [← z2]; simp
  have b4 : Below (W2.alloc (.cells #[.int .i64 fr] 3)).heap.size (W2.alloc (.cells #[.int .i64 fr] 3)) ((W2.alloc (.cells #[.int .i64 fr] 3)).alloc (.cells #[.int .i64 t] 3)) := (Below.refl _ _).alloc (Nat.le_refl _) _
  have t4 : ((W2.alloc (.cells #[.int .i64 fr] 3)).alloc (.cells #[.int .i64 t] 3)).cell? ⟨w.heap.size + 3, 0, none⟩ = some (.int .i64 t) := by rw [← z3]; simp
  have f4 := (b4.cell (p := ⟨w.heap.size + 2, 0, none⟩) (ecell_in f3)).trans f3
  have b24 := b3.trans (b4.mono b3.size)
  obtain ⟨W0, hW0⟩ : ∃ W0, W0 = (W2.alloc (.cells #[.int .i64 fr] 3)).alloc (.cells #[.int .i64 t] 3) := ⟨_, rfl⟩
  rw [← hW0] at t4 f4 b24
  have B0 := b2.trans (b24.mono b2.size)
  have hW : W0 = (((w.alloc (.cells #[.int .i64 a, .slice sa l.length sc] 24)).alloc (.cells (ecells e s) 33)).alloc (.cells #[.int .i64 fr] 3)).alloc (.cells #[.int .i64 t] 3) := by rw [hW0, hW2]
  have HW := Lib.hid hW
  have HB := Lib.hid B0
  have HE := Lib.hid (R2.on b24)
  have HX := Lib.hid (Z2.on b24)
  have HFT := Lib.hid (And.intro f4 t4)
  have HV := Lib.hid (fun W (q : Below w.heap.size w W) => hv.on q)
  have HT := Lib.hid (fun W (q : Below w.heap.size w W) => hT.below q)
  obtain ⟨he, hzz⟩ := ez_good ez
  have G2 : Hid (waF a l e fr t = if 400 < (rgS a l e fr t).length then 4 else 0) := Lib.hid rfl
  have RL0 : Hid (¬ waF a l e fr t = 0 → waL a l e fr t = []) := Lib.hid (fun q => if_neg q)
  have RL1 : Hid (waF a l e fr t = 0 → waL a l e fr t = rgS a l e fr t) := Lib.hid (fun q => if_pos q)
  generalize waL a l e fr t = L at RL0 RL1 ⊢
  generalize waF a l e fr t = F at G2 RL0 RL1 ⊢
  have EZ := Lib.hid ez
  have HEV := Lib.hid he
  have K2 := Lib.hid (reach_any e s W0 (HV.out _ B0) he)
  have ri := rea_in he
  obtain ⟨⟨ri1, ri2⟩, ⟨ri3, ri4⟩, _⟩ := ri
  have TL : Hid (taL a l e (fr - moA e.len e.alm) (t - leA e.len e.alm) = tmA a l e (fr - moA e.len e.alm) (t - leA e.len e.alm)) := Lib.hid (if_pos ez)
  have GS : Hid (rgL a l e fr t = rgG e.len e.alm fr t (tmA a l e (fr - moA e.len e.alm) (t - leA e.len e.alm))) := Lib.hid rfl
  have SO := Lib.hid (fun b => rgS_of (a := a) (l := l) (fr := fr) (t := t) he (b := b))
  have SL := Lib.hid (rgS_len a l e fr t)
  have AL := tmA_len (a := a) (l := l) (fr := fr - moA e.len e.alm) (t := t - leA e.len e.alm) he
  have YT := Lib.hid (fun y (q : y ∈ tmA a l e (fr - moA e.len e.alm) (t - leA e.len e.alm)) => isTm_time ((tmA_mem he hzz).1 q))
  have KA := Lib.hid (fun W (q : Below w.heap.size w W) => tAll_any a l _ e s (fr - moA e.len e.alm) (t - leA e.len e.alm) W (HZ.out _ q) (HV.out _ q) (HT.out _ q))
  rw [ez, TL.out] at KA
  have GL := Lib.hid (fun ys => rgG_len he (fr := fr) (t := t) ys)
  generalize tmA a l e (fr - moA e.len e.alm) (t - leA e.len e.alm) = YS at GS AL YT KA
  generalize rgL a l e fr t = RL at GS SO SL
  generalize rgS a l e fr t = RS at SO SL G2 RL1
  generalize moA e.len e.alm = MO at K2 ri3 ri4 KA
  generalize leA e.len e.alm = LE at K2 ri1 ri2 KA
  clear ez he hzz TL
  clear hz hv hT hW2 b2 z2 Z2 R2 b3 z3 f3 b4 t4 f4 b24 hW0 B0 hW W2
  go_enter Tryz.func64, Tryz.ntmps64
  go_upto_region 1 with fail
  rw [← HW.out]
  clear HW
  go_wp2_with (refine ev_load (by rfl) (.tmp 5) (by rfl) (w.heap.size + 1) e s (by rfl) HE.out ?_)
  refine K2.out.mono ?_
  rintro y w2 ⟨rfl, hb⟩
  have B2 := Lib.hid (HB.out.trans (hb.mono HB.out.size))
  have E2 := Lib.hid (HE.out.on hb)
  have X2 := Lib.hid (HX.out.on hb)
  have F2 := Lib.hid (And.intro ((hb.cell (p := ⟨w.heap.size + 2, 0, none⟩) (ecell_in HFT.out.1)).trans HFT.out.1) ((hb.cell (p := ⟨w.heap.size + 3, 0, none⟩) (ecell_in HFT.out.2)).trans HFT.out.2))
  clear hb K2 HB HE HX HFT
  have K3 := Lib.hid (KA.out _ B2.out)
  obtain ⟨z0, z1⟩ := X2.out
  have zl := ecell_in z0
  obtain ⟨ff, tt⟩ := F2.out
  have fl := ecell_in ff
  have tl := ecell_in tt
  go_wp2_with (refine ev_load (by rfl) (.tmp 5) (by rfl) (w.heap.size + 1) e s (by rfl) E2.out ?_)
  clear z0 z1 zl ff tt fl tl
  refine K3.out.mono ?_
  rintro y w3 ⟨u, rfl, ht, hb, _⟩
  rw [efault_0]
  have B3 := Lib.hid (B2.out.trans (hb.mono B2.out.size))
  have E3 := Lib.hid (E2.out.on hb)
  have F3 := Lib.hid (And.intro ((hb.cell (p := ⟨w.heap.size + 2, 0, none⟩) (ecell_in F2.out.1)).trans F2.out.1) ((hb.cell (p := ⟨w.heap.size + 3, 0, none⟩) (ecell_in F2.out.2)).trans F2.out.2))
  obtain ⟨la, lc, rfl, hc⟩ := ht
  have HC := Lib.hid hc
  have S3 := Lib.hid B3.out.size
  clear hb hc K3 KA B2 E2 X2 F2
  go_wp2_with fail
  go_loopw [15, 17, 41] (fun lv _ iv wr => ∃ k : Nat, k ≤ YS.length ∧ iv = .int .i64 k ∧ wr.ownsRow w3.heap.size 73 5 lv (rgG e.len e.alm fr t (YS.take k)).length ((rgG e.len e.alm fr t (YS.take k)).flatMap (encR e.name)) ∧ Below w3.heap.size w3 wr) (fun _ _ iv _ => YS.length - (intOf iv).toNat)
  case atStart => exact ⟨0, Nat.zero_le _, rfl, World.ownsRow_nil _ _ _ _, Below.refl _ _⟩
  case round =>
    obtain ⟨k, hk, rfl, hown, hB⟩ := hrel
    have HBr := Lib.hid hB
    have HO := Lib.hid hown
    have gl := GL.out (YS.take k)
    rw [List.length_take] at gl
    by_cases hlt : k < YS.length
    · rcases HC.out with hc | ⟨lb, lo, rfl, hc⟩
      · rw [hc] at hlt; simp at hlt
      obtain ⟨k0, k1, k2⟩ := hc k hlt
      have yt := YT.out _ (tm_mem4 hlt)
      have GK := Lib.hid (rgG_snoc e.len e.alm fr t YS k hlt)
      have gl2 := GL.out (YS.take (k + 1))
      rw [List.length_take] at gl2
      generalize YS.getD k (0, 0, 0) = Y at k0 k1 k2 yt GK
      have q0 := (hB.cell (p := ⟨lb, lo + k * 3, none⟩) (ecell_in k0)).trans k0
      have q1 := (hB.cell (p := ⟨lb, lo + k * 3 + 1, none⟩) (ecell_in k0)).trans k1
      have q2 := (hB.cell (p := ⟨lb, lo + k * 3 + 2, none⟩) (ecell_in k0)).trans k2
      have lb2 := ecell_in q0
      have b3 : Below wr.heap.size wr (wr.alloc (.cells #[.int .i64 Y.1, .int .i64 Y.2.1, .int .i64 Y.2.2] 44)) := (Below.refl _ _).alloc (Nat.le_refl _) _
      have T3 : (wr.alloc (.cells #[.int .i64 Y.1, .int .i64 Y.2.1, .int .i64 Y.2.2] 44)).cell? ⟨wr.heap.size, 0, none⟩ = some (.int .i64 Y.1) ∧ (wr.alloc (.cells #[.int .i64 Y.1, .int .i64 Y.2.1, .int .i64 Y.2.2] 44)).cell? ⟨wr.heap.size, 1, none⟩ = some (.int .i64 Y.2.1) ∧ (wr.alloc (.cells #[.int .i64 Y.1, .int .i64 Y.2.1, .int .i64 Y.2.2] 44)).cell? ⟨wr.heap.size, 2, none⟩ = some (.int .i64 Y.2.2) := by refine ⟨?_, ?_, ?_⟩ <;> simp
      obtain ⟨W3, hW3⟩ : ∃ W3, W3 = wr.alloc (.cells #[.int .i64 Y.1, .int .i64 Y.2.1, .int .i64 Y.2.2] 44) := ⟨_, rfl⟩
      rw [← hW3] at b3 T3
      have HW3 := Lib.hid hW3
      have BW := Lib.hid (HBr.out.trans (b3.mono HBr.out.size))
      have EW := Lib.hid (E3.out.on BW.out)
      have HO3 := Lib.hid (ow_below hown b3)
      have bw := B3.out.trans (BW.out.mono B3.out.size)
      have KR := Lib.hid (ringsOf_any e s Y W3 (HV.out _ bw) HEV.out (by omega) (by omega))
      have HT3 := Lib.hid T3
      clear hc k0 k1 k2 hB b3 T3 hW3 hown HO bw
      go_upto_region 10 with fail
      rw [← HW3.out]
      clear HW3 q0 q1 q2 lb2
      obtain ⟨t0, t1, t2⟩ := HT3.out
      have tl := ecell_in t0
      go_wp2_with (refine ev_load (by rfl) (.tmp 5) (by rfl) (w.heap.size + 1) e s (by rfl) EW.out ?_)
      clear t0 t1 t2 tl
      refine KR.out.mono ?_
      rintro y w5 ⟨u5, rfl, ow5, hb⟩
      have B5 := Lib.hid (BW.out.trans (hb.mono BW.out.size))
      have HO5 := Lib.hid (ow_below HO3.out hb)
      have S5 := Lib.hid BW.out.size
      have GN : Hid ((rgG e.len e.alm fr t (YS.take (k + 1))).length ≤ 24 * min (k + 1) YS.length) := Lib.hid gl2
      have RO := rgT_len (n := e.len) (y := Y) (evF_alm HEV.out).2 (k := e.alm.length) (Nat.le_refl _)
      have ro2 : (rgO e.len e.alm Y).length ≤ 100 := by
        have q1 := (evF_alm HEV.out).1
        have q2 : (rgO e.len e.alm Y).length = (rgT e.len e.alm Y e.alm.length).length := rfl
        omega
      have FL := Lib.hid (List.length_filter_le (fun x => !ouB fr t x) (rgO e.len e.alm Y))
      have F5 := Lib.hid (And.intro ((B5.out.cell (p := ⟨w.heap.size + 2, 0, none⟩) (ecell_in F3.out.1)).trans F3.out.1) ((B5.out.cell (p := ⟨w.heap.size + 3, 0, none⟩) (ecell_in F3.out.2)).trans F3.out.2))
      generalize rgG e.len e.alm fr t (YS.take k) = RT at HO3 HO5 GK gl
      generalize rgO e.len e.alm Y = OO at ow5 GK ro2 FL
      have fl3 := ecell_in F3.out.2
      clear gl2 RO KR EW
      rcases Nat.eq_zero_or_pos OO.length with l0 | lp
      · obtain ⟨a5, c5, e5⟩ := own_form ow5
        have o0 : OO = [] := List.eq_nil_of_length_eq_zero l0
        rw [l0] at e5
        subst e5
        have N : Hid (rgG e.len e.alm fr t (YS.take (k + 1)) = RT) := Lib.hid (by rw [GK.out, o0]; simp)
        obtain ⟨v7, w7, ap, o7, b7⟩ := app5_any (mo := []) HO5.out ⟨a5, c5, rfl, Or.inl rfl⟩ B5.out.size (by simp; omega)
        rw [List.append_nil] at o7
        have AP := Lib.hid ap
        have O7 := Lib.hid o7
        have B7 := Lib.hid (B5.out.trans b7)
        clear ap o7 b7 ow5 hb o0 l0 HO3 HO5
        go_wp2_with (first | (go_at_call 109; refine (delR_none _ _ _ _ _).mono ?_; rintro y w6 ⟨rfl, hw⟩; replace hw := hw.symm; subst hw) | (at_builtin; refine wpList_app rfl _ _ 75 rfl _ _ _ _ rfl rfl AP.out ?_))
        go_roundw
        case rel => exact ⟨k + 1, by omega, by go_num, by rw [N.out]; exact O7.out, B7.out⟩
        case measure => simp [intOf]; omega
      · rcases own_hol5 ow5 with ⟨_, o0⟩ | ⟨g, cap, rfl, hg, hgl, hcap, hh⟩
        · rw [o0] at lp; simp at lp
        have CA : ClR e.name g w5 (.pointer (some ⟨w.heap.size + 2, 0, none⟩)) (.pointer (some ⟨w.heap.size + 3, 0, none⟩)) (ouB fr t) := fun c W qa =>
          isOut_any e.name fr t c (w.heap.size + 2) (w.heap.size + 3) W ((qa.cell (p := ⟨w.heap.size + 2, 0, none⟩) (ecell_in F5.out.1) (by show w.heap.size + 2 ≠ g; have := S5.out; omega)).trans F5.out.1) ((qa.cell (p := ⟨w.heap.size + 3, 0, none⟩) (ecell_in F5.out.2) (by show w.heap.size + 3 ≠ g; have := S5.out; omega)).trans F5.out.2)
        have KD := Lib.hid (delR e.name _ _ (ouB fr t) OO g 0 cap w5 CA hh lp hcap (by omega))
        have G3 : Hid (w3.heap.size ≤ g) := Lib.hid (by have := S5.out; omega)
        have BL := Lib.hid (fun k q => HO3.out.lt k q)
        have HG := Lib.hid hg
        clear CA hh ow5 hb hg hgl hcap
        go_wp2_with fail
        refine KD.out.mono ?_
        rintro y w6 ⟨rfl, hh6, ha6⟩
        have B6 := B5.out.trans (ha6.below (n0 := w3.heap.size) G3.out B5.out.size)
        have O6 := own_apt HO5.out ha6 (Or.inr (fun z => by have := (BL.out g z).2; have := HG.out; omega))
        have fl6 := FL.out
        have gl6 := gl
        obtain ⟨v7, w7, ap, o7, b7⟩ := app5_any O6 (hh6.rowK (cap := cap)) B6.size (by omega)
        rw [← GK.out] at o7
        have AP := Lib.hid ap
        have O7 := Lib.hid o7
        have B7 := Lib.hid (B6.trans b7)
        clear ap o7 b7 B6 O6 hh6 ha6 KD HO3 HO5 BL HG fl6 gl6
        go_wp2_with (at_builtin; refine wpList_app rfl _ _ 75 rfl _ _ _ _ rfl rfl AP.out ?_)
        go_roundw
        case rel => exact ⟨k + 1, by omega, by go_num, O7.out, B7.out⟩
        case measure => simp [intOf]; omega
    · have ek : k = YS.length := by omega
      have O9 := HO.out
      rw [ek, List.take_length, ← GS.out] at O9
      rw [ek, List.take_length, ← GS.out] at gl
      obtain ⟨a9, c9, e9⟩ := own_form O9
      have HO9 := Lib.hid O9
      have B9 := Lib.hid (B3.out.trans (hB.mono B3.out.size))
      have SZ9 := Lib.hid hB.size
      have sl := SL.out
      clear O9 HO hown ek hB
      subst e9
      by_cases hq : 400 < RL.length
      · have N : Hid (F = 4 ∧ L = []) := Lib.hid (by
          have nf := G2.out
          rw [if_pos (by omega)] at nf
          exact ⟨nf, RL0.out (by rw [nf]; decide)⟩)
        clear G2 RL0 RL1 sl
        go_wp2
        go_ret2
        exact ⟨.slice none 0 0, by rw [N.out.1]; rfl, B9.out, by rw [N.out.2]; exact World.ownsRow_nil _ _ _ _⟩
      · have N : Hid (F = 0 ∧ L = RS) := Lib.hid (by
          have nf := G2.out
          rw [if_neg (by omega)] at nf
          exact ⟨nf, RL1.out nf⟩)
        have KS := Lib.hid (sortR_any e.name RL w3.heap.size _ wr HO9.out SZ9.out (by omega))
        clear G2 RL0 RL1 sl gl
        go_wp2_with fail
        refine KS.out.mono ?_
        rintro y w9 ⟨rfl, b, hp, hs, hb, ow⟩
        have eb := SO.out b hp hs
        have ow2 : w9.ownsRow w3.heap.size 73 5 (.slice a9 RL.length c9) b.length (b.flatMap (encR e.name)) := by rw [← hp.length_eq]; exact ow
        subst eb
        have ZZ := Lib.hid (And.intro (B9.out.trans (hb.mono S3.out)) (own_mono ow2 S3.out))
        clear hp hs hb ow ow2 KS SO
        go_wp2
        go_ret2
        exact ⟨_, by rw [N.out.1]; rfl, ZZ.out.1, by rw [N.out.2]; exact ZZ.out.2⟩
end Go.Proofs.YtoncfgfjdlgfcaaGreatDoor
namespace Go.Proofs.YtoncfgfjdlgfcaaGreatDoor
open Go.RowKit Cal Txt

theorem ra_bad {a : Int} {l : List (Int × Int)} {e : Evt} {fr t : Int} (h : ¬ tcF a l e fr t = 0) : raF a l e fr t = tcF a l e fr t ∧ raL a l e fr t = [] := by
  have h1 : raF a l e fr t = tcF a l e fr t := if_pos h
  exact ⟨h1, if_neg (by rw [h1]; exact h)⟩
theorem ra_win {a : Int} {l : List (Int × Int)} {e : Evt} {fr t : Int} (h : tcF a l e fr t = 0) : raF a l e fr t = waF a l e fr t ∧ raL a l e fr t = waL a l e fr t := by
  have h1 : raF a l e fr t = waF a l e fr t := if_neg (fun q => q h)
  refine ⟨h1, ?_⟩
  unfold raL waL
  rw [h1]
set_option maxRecDepth 100000 in
set_option maxHeartbeats 8000000 in
theorem rings_any (a : Int) (l : List (Int × Int)) (v : Value) (e : Evt) (s : Evs) (fr t : Int) (w : World) (hz : ZoneIn w v a l) (hv : EvB w e s) (hT : Tab w) :
    Calls Tryz.prog 27 #[v, .agg (ecells e s), .int .i64 fr, .int .i64 t] w (RaA e.name w (raL a l e fr t) (raF a l e fr t)) := by
  have HZ := Lib.hid (fun W (q : Below w.heap.size w W) => hz.on q)
  obtain ⟨sa, sc, rfl⟩ := hz.form
  obtain ⟨W2, hW2, b2, z2, Z2, R2⟩ := two_boxes w a l sa sc e s
  have HW := Lib.hid hW2
  have HB := Lib.hid b2
  have HE := Lib.hid R2
  have HX := Lib.hid Z2
  have HV := Lib.hid (fun W (q : Below w.heap.size w W) => hv.on q)
  have HT := Lib.hid (fun W (q : Below w.heap.size w W) => hT.below q)
  have KC := Lib.hid (tchk_any a l _ e s fr t W2 (HZ.out _ b2) (hv.on b2))
  have RB := Lib.hid (fun (h : ¬ tcF a l e fr t = 0) => ra_bad h)
  have RG := Lib.hid (fun (h : tcF a l e fr t = 0) => ra_win h)
  have TG := Lib.hid (fun (h : tcF a l e fr t = 0) => tc_good h)
  generalize raL a l e fr t = L at RB RG ⊢
  generalize raF a l e fr t = F at RB RG ⊢
  generalize tcF a l e fr t = CF at KC RB RG TG
  clear hz hv hT hW2 b2 z2 Z2 R2
  go_enter Tryz.func27, Tryz.ntmps27
  go_upto_region 1 with fail
  rw [← HW.out]
  clear HW
  obtain ⟨z0, z1⟩ := HX.out
  have zl := ecell_in z0
  go_wp2_with (refine ev_load (by rfl) (.tmp 5) (by rfl) (w.heap.size + 1) e s (by rfl) HE.out ?_)
  clear z0 z1 zl
  refine KC.out.mono ?_
  rintro y w1 ⟨rfl, hb⟩
  have B1 := Lib.hid (HB.out.trans (hb.mono HB.out.size))
  have E1 := Lib.hid (HE.out.on hb)
  have X1 := Lib.hid (HX.out.on hb)
  clear hb KC HB HE HX
  by_cases hq : CF = 0
  case neg =>
    have N := Lib.hid (RB.out hq)
    rw [efault_ne hq]
    have HQ := Lib.hid hq
    clear hq RB TG RG
    go_wp2
    go_ret2
    exact ⟨.slice none 0 0, by rw [N.out.1, efault_ne HQ.out]; rfl, B1.out, by rw [N.out.2]; exact World.ownsRow_nil _ _ _ _⟩
  obtain ⟨ez, hs⟩ := TG.out hq
  obtain ⟨⟨sb1, sb2⟩, sb3, sb4⟩ := strB_ends hs
  have N := Lib.hid (RG.out hq)
  have K2 := Lib.hid (alwin_any a l _ e s fr t w1 (HZ.out _ B1.out) (HV.out _ B1.out) (HT.out _ B1.out) ez sb1 (by omega) (by omega) (by omega))
  rw [hq, efault_0]
  clear hq ez hs RB TG RG sb1 sb2 sb3 sb4
  obtain ⟨z0, z1⟩ := X1.out
  have zl := ecell_in z0
  go_wp2_with (refine ev_load (by rfl) (.tmp 5) (by rfl) (w.heap.size + 1) e s (by rfl) E1.out ?_)
  clear z0 z1 zl
  refine K2.out.mono ?_
  rintro y w2 ⟨u, rfl, hb, ho⟩
  have ZZ := Lib.hid (And.intro (B1.out.trans (hb.mono B1.out.size)) (own_mono ho B1.out.size))
  clear hb ho K2
  go_wp2
  go_ret2
  exact ⟨u, by rw [N.out.1]; rfl, ZZ.out.1, by rw [N.out.2]; exact ZZ.out.2⟩
end Go.Proofs.YtoncfgfjdlgfcaaGreatDoor
namespace Go.Proofs.YtoncfgfjdlgfcaaGreatDoor
open Go.RowKit Cal Txt

/-- A ring's cells in a row. -/
def RgCl (nm : ByteArray) (w : World) (b o : Nat) (x : Rg) : Prop := w.cell? ⟨b, o, none⟩ = some (.int .i64 x.1) ∧ w.cell? ⟨b, o + 1, none⟩ = some (.string nm) ∧ w.cell? ⟨b, o + 2, none⟩ = some (.int .i64 x.2.1) ∧ w.cell? ⟨b, o + 3, none⟩ = some (.int .i64 x.2.2.1) ∧ w.cell? ⟨b, o + 4, none⟩ = some (.int .i64 x.2.2.2)
theorem RgCl.on {nm : ByteArray} {w w' : World} {b o : Nat} {x : Rg} (h : RgCl nm w b o x) (q : Below w.heap.size w w') : RgCl nm w' b o x := by
  have l := ecell_in h.1
  exact ⟨(q.cell (p := ⟨b, o, none⟩) l).trans h.1, (q.cell (p := ⟨b, o + 1, none⟩) l).trans h.2.1, (q.cell (p := ⟨b, o + 2, none⟩) l).trans h.2.2.1, (q.cell (p := ⟨b, o + 3, none⟩) l).trans h.2.2.2.1, (q.cell (p := ⟨b, o + 4, none⟩) l).trans h.2.2.2.2⟩
theorem rowK_at {nm : ByteArray} {w : World} {v : Value} {l : List Rg} (h : RowK (encR nm) w v l) : ∃ a cap, v = .slice a l.length cap ∧ (l = [] ∨ ∃ b off, a = some ⟨b, off, none⟩ ∧ ∀ i, i < l.length → RgCl nm w b (off + i * 5) (l.getD i (0, 0, 0, 0))) := by
  obtain ⟨a, cap, e, hc⟩ := h
  refine ⟨a, cap, e, ?_⟩
  rcases hc with hc | ⟨b, off, ea, hc⟩
  · exact Or.inl hc
  · refine Or.inr ⟨b, off, ea, fun i hi => ?_⟩
    have at_ : ∀ c v, c < 5 → (encR nm (l.getD i (0, 0, 0, 0)))[c]? = some v → w.cell? ⟨b, off + i * 5 + c, none⟩ = some v := fun c v h5 hv => by
      have q := flat_at (encR nm) 5 (fun _ => rfl) l i c hi h5
      have q2 : (l.flatMap (encR nm))[i * 5 + c]? = some v := q.trans hv
      have := hc (i * 5 + c) v q2
      rwa [← Nat.add_assoc] at this
    exact ⟨at_ 0 _ (by decide) rfl, at_ 1 _ (by decide) rfl, at_ 2 _ (by decide) rfl, at_ 3 _ (by decide) rfl, at_ 4 _ (by decide) rfl⟩
set_option maxRecDepth 100000 in
set_option maxHeartbeats 2000000 in
theorem sameRings (nm : ByteArray) (l : List Rg) (va vb : Value) (w : World) (ha : RowK (encR nm) w va l) (hb : RowK (encR nm) w vb l) (hl : l.length ≤ 2000000) :
    Calls Tryz.prog 28 #[va, vb] w fun e w' => e = .returned (.bool true) ∧ Below w.heap.size w w' := by
  obtain ⟨aa, ca, rfl, xa⟩ := rowK_at ha
  obtain ⟨ab, cb, rfl, xb⟩ := rowK_at hb
  have HA := Lib.hid xa
  have HBb := Lib.hid xb
  clear xa xb ha hb
  go_enter Tryz.func28, Tryz.ntmps28
  go_wp2
  go_loopw [5] (fun i wr => ∃ k : Nat, k ≤ l.length ∧ i = .int .i64 k ∧ Below w.heap.size w wr) (fun i _ => l.length - (intOf i).toNat)
  case atStart => exact ⟨0, Nat.zero_le _, rfl, Below.refl _ _⟩
  case round =>
    obtain ⟨k, hk, rfl, hB⟩ := hrel
    by_cases hlt : k < l.length
    · rcases HA.out with hc | ⟨b, off, rfl, hc⟩
      · rw [hc] at hlt; simp at hlt
      rcases HBb.out with hd | ⟨b2, off2, rfl, hd⟩
      · rw [hd] at hlt; simp at hlt
      obtain ⟨p0, p1, p2, p3, p4⟩ := (hc k hlt).on hB
      obtain ⟨q0, q1, q2, q3, q4⟩ := (hd k hlt).on hB
      generalize l.getD k (0, 0, 0, 0) = Y at p0 p2 p3 p4 q0 q2 q3 q4
      obtain ⟨x, y, z, u⟩ := Y
      dsimp only at p0 p2 p3 p4 q0 q2 q3 q4
      clear hc hd
      go_wp2_with fail
      go_quiet (fail)
      go_wp2
      go_roundw
      case rel => exact ⟨k + 1, by omega, by go_num, below_drewN hB _⟩
      case measure => simp [intOf]; omega
    · go_wp2
      go_ret
      exact ⟨rfl, hB⟩
end Go.Proofs.YtoncfgfjdlgfcaaGreatDoor
