/-
  What is proved here: plain words on rings; what package alarm's behind and reach, and times.All, answer of an event that is right (contracts over the translation).
  What is proved here: what alarm.ringsOf answers of an event that is right and one of its Times (a contract over the translation).
  What is proved here: rows of rings that may be written; how far deleting has come.
  What is proved here: what slices.IndexFunc and slices.DeleteFunc answer at rings and the closure of alarm.Rings (contracts over the translation).
-/
import Derived.Test.YthdohcjingfpoaaGreatDoorTiApp
import Derived.Lib.QuietBelow
namespace Go.Proofs.YthdohcjingfpoaaGreatDoor
open Go.RowKit Cal Txt

/-- An alarm: Offset, End, Repeat, Between. -/
abbrev Al := Int × Bool × Int × Int
/-- A ring of one event: At, Which, Alarm, Turn. -/
abbrev Rg := Int × Int × Int × Int
def encR (nm : ByteArray) (x : Rg) : List Value := [.int .i64 x.1, .string nm, .int .i64 x.2.1, .int .i64 x.2.2.1, .int .i64 x.2.2.2]
/-- How many minutes behind From an alarm rings first. -/
def bhd (n : Int) (x : Al) : Int := if x.2.1 = true then n + x.1 else x.1
def lst (x : Al) : Int := x.2.2.1 * x.2.2.2
def leA (n : Int) (l : List Al) : Int := l.foldl (fun m x => min m (bhd n x)) 0
def moA (n : Int) (l : List Al) : Int := l.foldl (fun m x => max m (bhd n x + lst x)) 0
theorem amF_all : ∀ {l : List Al}, amF l = 0 → ∀ x ∈ l, alF x = 0
  | [], _, x, h => by cases h
  | y :: l, h, x, hx => by
    unfold amF at h
    by_cases q : alF y = 0
    · rw [if_pos q] at h
      rcases List.mem_cons.1 hx with rfl | hx
      · exact q
      · exact amF_all h x hx
    · rw [if_neg q] at h; exact absurd h q
theorem evF_alm {e : Evt} (h : evF e = 0) : e.alm.length ≤ 4 ∧ ∀ x ∈ e.alm, alF x = 0 := by
  unfold evF at h
  split at h
  · cases h
  split at h
  · cases h
  split at h
  · rename_i q; exact absurd h q
  split at h
  · rename_i q; exact absurd h q
  rename_i q1 q2 q3 q4
  refine ⟨?_, amF_all h⟩
  have h4 : liF e = 0 := Decidable.byContradiction q4
  unfold liF at h4
  split at h4
  · cases h4
  rename_i q
  unfold full at q
  simp at q
  omega
/-- The numbers of an alarm that is right. -/
theorem alF_in {x : Al} (h : alF x = 0) : (-100000 ≤ x.1 ∧ x.1 ≤ 100000) ∧ (0 ≤ x.2.2.1 ∧ x.2.2.1 ≤ 5) ∧ (0 ≤ x.2.2.2 ∧ x.2.2.2 ≤ 10000) ∧ (¬ x.2.2.1 = 0 → 1 ≤ x.2.2.2) := by
  unfold alF at h
  split at h
  · rename_i q
    obtain ⟨q1, q2, q3⟩ := q
    refine ⟨q1, q2, ?_, ?_⟩ <;> omega
  · cases h
theorem lst_in {x : Al} (h : alF x = 0) : 0 ≤ lst x ∧ lst x ≤ 50000 := by
  obtain ⟨_, ⟨a1, a2⟩, ⟨b1, b2⟩, _⟩ := alF_in h
  unfold lst
  rcases (by omega : x.2.2.1 = 0 ∨ x.2.2.1 = 1 ∨ x.2.2.1 = 2 ∨ x.2.2.1 = 3 ∨ x.2.2.1 = 4 ∨ x.2.2.1 = 5) with q | q | q | q | q | q <;> rw [q] <;> omega
theorem bhd_in {n : Int} {x : Al} (h : alF x = 0) (h1 : 0 ≤ n) (h2 : n ≤ 100000) : -100000 ≤ bhd n x ∧ bhd n x ≤ 200000 := by
  have := (alF_in h).1
  unfold bhd
  split <;> omega
/-- How far at most. -/
theorem foldA {n : Int} (h1 : 0 ≤ n) (h2 : n ≤ 100000) : ∀ (l : List Al) (m M : Int), (∀ x ∈ l, alF x = 0) → (-100000 ≤ m ∧ m ≤ 0) → (0 ≤ M ∧ M ≤ 250000) →
    (-100000 ≤ l.foldl (fun m x => min m (bhd n x)) m ∧ l.foldl (fun m x => min m (bhd n x)) m ≤ m) ∧ (M ≤ l.foldl (fun m x => max m (bhd n x + lst x)) M ∧ l.foldl (fun m x => max m (bhd n x + lst x)) M ≤ 250000) ∧
    ∀ x ∈ l, l.foldl (fun m x => min m (bhd n x)) m ≤ bhd n x ∧ bhd n x + lst x ≤ l.foldl (fun m x => max m (bhd n x + lst x)) M
  | [], m, M, _, hm, hM => ⟨⟨hm.1, Int.le_refl _⟩, ⟨Int.le_refl _, hM.2⟩, fun x hx => by cases hx⟩
  | y :: l, m, M, hl, hm, hM => by
    have hy := hl y List.mem_cons_self
    have b1 := bhd_in hy h1 h2
    have b2 := lst_in hy
    obtain ⟨p1, p2, p3⟩ := foldA h1 h2 l (min m (bhd n y)) (max M (bhd n y + lst y)) (fun x hx => hl x (List.mem_cons_of_mem _ hx)) (by omega) (by omega)
    simp only [List.foldl_cons]
    refine ⟨by omega, by omega, fun x hx => ?_⟩
    rcases List.mem_cons.1 hx with rfl | hx
    · omega
    · exact p3 x hx
theorem rea_in {e : Evt} (h : evF e = 0) : (-100000 ≤ leA e.len e.alm ∧ leA e.len e.alm ≤ 0) ∧ (0 ≤ moA e.len e.alm ∧ moA e.len e.alm ≤ 250000) ∧ ∀ x ∈ e.alm, leA e.len e.alm ≤ bhd e.len x ∧ bhd e.len x + lst x ≤ moA e.len e.alm := by
  have l1 := (evF_lens h).2.2.2.2.2
  exact foldA l1.1 l1.2 e.alm 0 0 (evF_alm h).2 (by omega) (by omega)
theorem fold_snoc {β : Type} (f : β → Al → β) (b : β) (l : List Al) (k : Nat) (h : k < l.length) : (l.take (k + 1)).foldl f b = f ((l.take k).foldl f b) (l.getD k (0, false, 0, 0)) := by
  rw [List.take_succ_eq_append_getElem h, List.foldl_append, List.getD_eq_getElem?_getD, List.getElem?_eq_getElem h]
  rfl
set_option maxRecDepth 100000 in
set_option maxHeartbeats 2000000 in
theorem alBeh_any (e : Evt) (s : Evs) (o : Int) (b : Bool) (r t : Int) (w : World) (h1 : 0 ≤ e.len) (h2 : e.len ≤ 100000) (h3 : -100000 ≤ o) (h4 : o ≤ 100000) :
    Calls Tryz.prog 126 #[.agg (ecells e s), .agg #[.int .i64 o, .bool b, .int .i64 r, .int .i64 t]] w fun x w' => x = .returned (.int .i64 (bhd e.len (o, b, r, t))) ∧ Below w.heap.size w w' := by
  have R0 := EBox.new w e s 40
  have b1 : Below w.heap.size w (w.alloc (.cells (ecells e s) 40)) := (Below.refl _ _).alloc (Nat.le_refl _) _
  have z1 : (w.alloc (.cells (ecells e s) 40)).heap.size = w.heap.size + 1 := World.size_alloc _ _
  have b2 : Below (w.alloc (.cells (ecells e s) 40)).heap.size (w.alloc (.cells (ecells e s) 40)) ((w.alloc (.cells (ecells e s) 40)).alloc (.cells #[.int .i64 o, .bool b, .int .i64 r, .int .i64 t] 32)) := (Below.refl _ _).alloc (Nat.le_refl _) _
  have R1 := R0.on b2
  have C : ((w.alloc (.cells (ecells e s) 40)).alloc (.cells #[.int .i64 o, .bool b, .int .i64 r, .int .i64 t] 32)).cell? ⟨w.heap.size + 1, 0, none⟩ = some (.int .i64 o) ∧ ((w.alloc (.cells (ecells e s) 40)).alloc (.cells #[.int .i64 o, .bool b, .int .i64 r, .int .i64 t] 32)).cell? ⟨w.heap.size + 1, 1, none⟩ = some (.bool b) := by
    rw [← z1]
    constructor <;> simp
  have B := Lib.hid (b1.trans (b2.mono b1.size))
  obtain ⟨W0, hW⟩ : ∃ W0, W0 = (w.alloc (.cells (ecells e s) 40)).alloc (.cells #[.int .i64 o, .bool b, .int .i64 r, .int .i64 t] 32) := ⟨_, rfl⟩
  rw [← hW] at R1 C B
  have HW := Lib.hid hW
  have c3 := R1.1.2.2.2.1
  have cl := R1.lt
  obtain ⟨a0, a1⟩ := C
  have al := ecell_in a0
  have NT : Hid (bhd e.len (o, true, r, t) = e.len + o) := Lib.hid rfl
  have NF : Hid (bhd e.len (o, false, r, t) = o) := Lib.hid rfl
  clear R0 b1 z1 b2 R1 hW
  go_enter Tryz.func126, Tryz.ntmps126
  go_upto_region 1 with fail
  rw [← HW.out]
  clear HW
  rcases b with _ | _
  · go_wp2
    go_ret
    exact ⟨by rw [NF.out]; rfl, B.out⟩
  · go_wp2
    go_ret
    exact ⟨by rw [NT.out]; rfl, B.out⟩
/-- An alarm in a block. -/
def ABx (W : World) (b : Nat) (x : Al) : Prop := W.cell? ⟨b, 0, none⟩ = some (.int .i64 x.1) ∧ W.cell? ⟨b, 1, none⟩ = some (.bool x.2.1) ∧ W.cell? ⟨b, 2, none⟩ = some (.int .i64 x.2.2.1) ∧ W.cell? ⟨b, 3, none⟩ = some (.int .i64 x.2.2.2)
theorem ABx.on {W W' : World} {b : Nat} {x : Al} (h : ABx W b x) (q : Below W.heap.size W W') : ABx W' b x := by
  have l := ecell_in h.1
  exact ⟨(q.cell (p := ⟨b, 0, none⟩) l).trans h.1, (q.cell (p := ⟨b, 1, none⟩) l).trans h.2.1, (q.cell (p := ⟨b, 2, none⟩) l).trans h.2.2.1, (q.cell (p := ⟨b, 3, none⟩) l).trans h.2.2.2⟩
theorem ABx.new (W : World) (x : Al) (t : TypeId) : ABx (W.alloc (.cells #[.int .i64 x.1, .bool x.2.1, .int .i64 x.2.2.1, .int .i64 x.2.2.2] t)) W.heap.size x := by
  refine ⟨?_, ?_, ?_, ?_⟩ <;> simp
theorem alm_mem {l : List Al} {k : Nat} (h : k < l.length) : l.getD k (0, false, 0, 0) ∈ l := by rw [List.getD_eq_getElem?_getD, List.getElem?_eq_getElem h]; exact List.getElem_mem h
theorem al_take {l : List Al} {k : Nat} (h : ∀ x ∈ l, alF x = 0) : ∀ x ∈ l.take k, alF x = 0 := fun x hx => h x (List.mem_of_mem_take hx)
set_option maxRecDepth 100000 in
set_option maxHeartbeats 4000000 in
theorem reach_any (e : Evt) (s : Evs) (w : World) (hv : EvB w e s) (h : evF e = 0) :
    Calls Tryz.prog 91 #[.agg (ecells e s)] w fun x w' => x = .returned (.tuple #[.int .i64 (leA e.len e.alm), .int .i64 (moA e.len e.alm)]) ∧ Below w.heap.size w w' := by
  obtain ⟨h1, h2⟩ := (evF_lens h).2.2.2.2.2
  obtain ⟨h3, h4⟩ := evF_alm h
  have R0 := EBox.new w e s 40
  have b1 : Below w.heap.size w (w.alloc (.cells (ecells e s) 40)) := (Below.refl _ _).alloc (Nat.le_refl _) _
  have VA := (hv.on b1).2.2.2.2.2.2.2
  obtain ⟨W0, hW⟩ : ∃ W0, W0 = w.alloc (.cells (ecells e s) 40) := ⟨_, rfl⟩
  rw [← hW] at R0 b1 VA
  have HW := Lib.hid hW
  have HB := Lib.hid b1
  have HE := Lib.hid R0
  have H4 := Lib.hid h4
  have c16 := R0.2.2.2.2.2
  obtain ⟨va, vc, ev, hc⟩ := VA
  rw [ev] at c16
  have HC := Lib.hid hc
  have cl := R0.lt
  have FS := Lib.hid (fun k (q : k < e.alm.length) => fold_snoc (fun m x => min m (bhd e.len x)) 0 e.alm k q)
  have FM := Lib.hid (fun k (q : k < e.alm.length) => fold_snoc (fun m x => max m (bhd e.len x + lst x)) 0 e.alm k q)
  have FB := Lib.hid (fun k => foldA h1 h2 (e.alm.take k) 0 0 (al_take h4) (by omega) (by omega))
  have EQ1 : Hid (leA e.len e.alm = (e.alm.take e.alm.length).foldl (fun m x => min m (bhd e.len x)) 0) := Lib.hid (by rw [List.take_length]; rfl)
  have EQ2 : Hid (moA e.len e.alm = (e.alm.take e.alm.length).foldl (fun m x => max m (bhd e.len x + lst x)) 0) := Lib.hid (by rw [List.take_length]; rfl)
  generalize leA e.len e.alm = LL at EQ1 ⊢
  generalize moA e.len e.alm = MM at EQ2 ⊢
  clear hW hc R0 b1 h h4 hv ev
  go_enter Tryz.func91, Tryz.ntmps91
  go_upto_region 1 with fail
  rw [← HW.out]
  clear HW
  go_wp2_with fail
  clear c16 cl
  go_loopw [4, 5, 7, 8, 12] (fun av bv _ _ iv wr => ∃ k : Nat, k ≤ e.alm.length ∧ iv = .int .i64 k ∧ av = .int .i64 ((e.alm.take k).foldl (fun m x => min m (bhd e.len x)) 0) ∧ bv = .int .i64 ((e.alm.take k).foldl (fun m x => max m (bhd e.len x + lst x)) 0) ∧ Below W0.heap.size W0 wr) (fun _ _ _ _ iv _ => e.alm.length - (intOf iv).toNat)
  case atStart => exact ⟨0, Nat.zero_le _, rfl, rfl, rfl, Below.refl _ _⟩
  case round =>
    obtain ⟨k, hk, rfl, rfl, rfl, hB⟩ := hrel
    have HBr := Lib.hid hB
    by_cases hlt : k < e.alm.length
    · rcases HC.out with hc | ⟨lb, lo, rfl, hc⟩
      · rw [hc] at hlt; simp at hlt
      obtain ⟨k0, k1, k2, k3⟩ := hc k hlt
      have ax := H4.out _ (alm_mem hlt)
      have S1 := Lib.hid (FS.out k hlt)
      have S2 := Lib.hid (FM.out k hlt)
      obtain ⟨⟨f1, f2⟩, ⟨f3, f4⟩, _⟩ := FB.out k
      generalize e.alm.getD k (0, false, 0, 0) = X at k0 k1 k2 k3 ax S1 S2
      obtain ⟨x1, x2, x3, x4⟩ := X
      dsimp only at k0 k1 k2 k3
      obtain ⟨⟨o1, o2⟩, ⟨r1, r2⟩, ⟨p1, p2⟩, _⟩ := alF_in ax
      dsimp only at o1 o2 r1 r2 p1 p2
      have bi := bhd_in ax h1 h2
      have li := lst_in ax
      generalize (e.alm.take k).foldl (fun m x => min m (bhd e.len x)) 0 = AV at S1 f1 f2
      generalize (e.alm.take k).foldl (fun m x => max m (bhd e.len x + lst x)) 0 = BV at S2 f3 f4
      have q0 := (hB.cell (p := ⟨lb, lo + k * 4, none⟩) (ecell_in k0)).trans k0
      have q1 := (hB.cell (p := ⟨lb, lo + k * 4 + 1, none⟩) (ecell_in k0)).trans k1
      have q2 := (hB.cell (p := ⟨lb, lo + k * 4 + 2, none⟩) (ecell_in k0)).trans k2
      have q3 := (hB.cell (p := ⟨lb, lo + k * 4 + 3, none⟩) (ecell_in k0)).trans k3
      have lb2 := ecell_in q0
      have b3 : Below wr.heap.size wr (wr.alloc (.cells #[.int .i64 x1, .bool x2, .int .i64 x3, .int .i64 x4] 32)) := (Below.refl _ _).alloc (Nat.le_refl _) _
      have A3 := ABx.new wr (x1, x2, x3, x4) 32
      dsimp only at A3
      obtain ⟨W3, hW3⟩ : ∃ W3, W3 = wr.alloc (.cells #[.int .i64 x1, .bool x2, .int .i64 x3, .int .i64 x4] 32) := ⟨_, rfl⟩
      rw [← hW3] at b3 A3
      have HW3 := Lib.hid hW3
      have BW := Lib.hid (HBr.out.trans (b3.mono HBr.out.size))
      have E3 := Lib.hid (HE.out.on BW.out)
      have HA3 := Lib.hid A3
      have K := Lib.hid (alBeh_any e s x1 x2 x3 x4 W3 h1 h2 o1 o2)
      clear hc k0 k1 k2 k3 hB b3 A3 hW3 ax HBr
      go_upto_region 5 with fail
      rw [← HW3.out]
      clear HW3 q0 q1 q2 q3 lb2
      obtain ⟨a0, a1, a2, a3⟩ := HA3.out
      have al := ecell_in a0
      dsimp only at a0 a1 a2 a3
      go_wp2_with (refine ev_load ?h1 (.tmp 1) ?h2 w.heap.size e s ?h3 E3.out ?h4; (case h1 => rfl); (case h2 => rfl); (case h3 => rfl))
      clear a0 a1 a2 a3 al
      refine K.out.mono ?_
      rintro y w4 ⟨rfl, hb⟩
      obtain ⟨a0, a1, a2, a3⟩ := HA3.out.on hb
      have al := ecell_in a0
      dsimp only at a0 a1 a2 a3
      have Q4 := Lib.hid (BW.out.trans (hb.mono BW.out.size))
      have lx : lst (x1, x2, x3, x4) = x3 * x4 := rfl
      rw [lx] at li
      generalize bhd e.len (x1, x2, x3, x4) = BH at S1 S2 bi
      obtain ⟨LS, hLS⟩ : ∃ LS, LS = x3 * x4 := ⟨_, rfl⟩
      rw [lx, ← hLS] at S2
      rw [← hLS] at li
      obtain ⟨A2, hA2⟩ : ∃ A2, A2 = (e.alm.take (k + 1)).foldl (fun m x => min m (bhd e.len x)) 0 := ⟨_, rfl⟩
      obtain ⟨B2, hB2⟩ : ∃ B2, B2 = (e.alm.take (k + 1)).foldl (fun m x => max m (bhd e.len x + lst x)) 0 := ⟨_, rfl⟩
      have m1 : min AV BH = A2 := by rw [hA2]; exact S1.out.symm
      have m2 : max BV (BH + LS) = B2 := by rw [hB2]; exact S2.out.symm
      have m3 : x3 * x4 = LS := hLS.symm
      have HA2 := Lib.hid hA2
      have HB2 := Lib.hid hB2
      obtain ⟨bi1, bi2⟩ := bi
      obtain ⟨li1, li2⟩ := li
      clear hA2 hB2 hLS lx S1 S2 hb K
      go_wp2
      go_roundw
      case rel => exact ⟨k + 1, by omega, by go_num, by rw [HA2.out], by rw [HB2.out], Q4.out⟩
      case measure => simp [intOf]; omega
    · have ek : k = e.alm.length := by omega
      have E1 := Lib.hid EQ1.out
      rw [← ek] at E1
      have E2 := Lib.hid EQ2.out
      rw [← ek] at E2
      have ZZ := Lib.hid (HB.out.trans (hB.mono HB.out.size))
      go_wp2
      go_ret2
      exact ⟨by rw [E1.out, E2.out]; rfl, ZZ.out⟩
/-- What All tells. -/
def taL (a : Int) (l : List (Int × Int)) (e : Evt) (fr t : Int) : List Tm := if ezF a l e = 0 then tmA a l e fr t else []
set_option maxRecDepth 100000 in
set_option maxHeartbeats 4000000 in
theorem tAll_any (a : Int) (l : List (Int × Int)) (v : Value) (e : Evt) (s : Evs) (fr t : Int) (w : World) (hz : ZoneIn w v a l) (hv : EvB w e s) (hT : Tab w) :
    Calls Tryz.prog 92 #[v, .agg (ecells e s), .int .i64 fr, .int .i64 t] w (TbA w (taL a l e fr t) (ezF a l e)) := by
  have HZ := Lib.hid (fun W (q : Below w.heap.size w W) => hz.on q)
  obtain ⟨sa, sc, rfl⟩ := hz.form
  obtain ⟨W0, hW, B0, _, Z0, R0⟩ := two_boxes w a l sa sc e s
  have HW := Lib.hid hW
  have HB := Lib.hid B0
  have HE := Lib.hid R0
  have HX := Lib.hid Z0
  have KC := Lib.hid (tcheck_any a l _ e s W0 (HZ.out _ B0) (hv.on B0))
  have KA := Lib.hid (fun (h : ezF a l e = 0) W (q : Below w.heap.size w W) => tall_far a l _ e s fr t W (HZ.out _ q) (ez_good h).2 (hv.on q) (hT.below q) (ez_good h).1)
  have L0 : Hid (¬ ezF a l e = 0 → taL a l e fr t = []) := Lib.hid (fun q => if_neg q)
  have L1 : Hid (ezF a l e = 0 → taL a l e fr t = tmA a l e fr t) := Lib.hid (fun q => if_pos q)
  generalize taL a l e fr t = L at L0 L1 ⊢
  generalize tmA a l e fr t = RES at L1 KA
  generalize ezF a l e = EF at L0 L1 KC KA ⊢
  clear hz hv hT hW B0 Z0 R0
  go_enter Tryz.func92, Tryz.ntmps92
  go_upto_region 1 with fail
  rw [← HW.out]
  clear HW
  obtain ⟨z0, z1⟩ := HX.out
  have zl := ecell_in z0
  go_wp2_with (refine ev_load ?h1 (.tmp 5) ?h2 (w.heap.size + 1) e s ?h3 HE.out ?h4; (case h1 => rfl); (case h2 => rfl); (case h3 => rfl))
  clear z0 z1 zl
  refine KC.out.mono ?_
  rintro y w1 ⟨rfl, hb⟩
  have B1 := Lib.hid (HB.out.trans (hb.mono HB.out.size))
  have E1 := Lib.hid (HE.out.on hb)
  have X1 := Lib.hid (HX.out.on hb)
  clear hb KC HB HE HX
  by_cases hq : EF = 0
  case neg =>
    have N : Hid (L = []) := Lib.hid (L0.out hq)
    have HQ := Lib.hid hq
    clear L0 L1 KA
    go_upto_region 2 with fail
    rw [efault_ne HQ.out]
    clear hq
    go_wp2
    go_ret2
    exact ⟨.slice none 0 0, by rw [efault_ne HQ.out]; rfl, by rw [N.out]; exact nil_tms _, B1.out, by rw [N.out]; exact World.ownsRow_nil _ _ _ _⟩
  have K := Lib.hid (KA.out hq _ B1.out)
  have N := Lib.hid (L1.out hq)
  subst hq
  rw [efault_0]
  clear L0 L1 KA
  obtain ⟨z0, z1⟩ := X1.out
  have zl := ecell_in z0
  go_wp2_with (refine ev_load ?i1 (.tmp 5) ?i2 (w.heap.size + 1) e s ?i3 E1.out ?i4; (case i1 => rfl); (case i2 => rfl); (case i3 => rfl))
  clear z0 z1 zl
  refine K.out.mono ?_
  rintro x w2 ⟨u, rfl, ht, hb, ow⟩
  have B2 := Lib.hid (B1.out.trans (hb.mono B1.out.size))
  have HTM := Lib.hid ht
  have OW := Lib.hid (own_mono ow B1.out.size)
  obtain ⟨a9, c9, rfl, _⟩ := ht
  clear hb K B1 E1 X1 ow
  go_wp2
  go_ret2
  exact ⟨.slice a9 RES.length c9, by rw [efault_0]; rfl, by rw [N.out]; exact HTM.out, B2.out, by rw [N.out]; exact OW.out⟩
end Go.Proofs.YthdohcjingfpoaaGreatDoor
namespace Go.Proofs.YthdohcjingfpoaaGreatDoor
open Go.RowKit Cal Txt

theorem info_rg : (Tryz.prog.info? 45).map (fun i => (i.zero, i.size, i.bytes)) = some (some (.agg #[.int .i64 0, .string ⟨#[]⟩, .int .i64 0, .int .i64 0, .int .i64 0]), 5, 48) := by kernel_rfl
/-- One ring; those of an alarm; those of the first alarms. -/
def rg1 (n : Int) (y : Tm) (k : Nat) (x : Al) (u : Nat) : Rg := (y.2.1 + bhd n x + u * x.2.2.2, y.1, (k : Int), (u : Int))
def rgX (n : Int) (y : Tm) (k : Nat) (x : Al) : List Rg := (List.range (x.2.2.1.toNat + 1)).map (rg1 n y k x)
def rgT (n : Int) (l : List Al) (y : Tm) (k : Nat) : List Rg := (List.range k).flatMap (fun j => rgX n y j (l.getD j (0, false, 0, 0)))
def rgO (n : Int) (l : List Al) (y : Tm) : List Rg := rgT n l y l.length
theorem rgT_succ (n : Int) (l : List Al) (y : Tm) (k : Nat) : rgT n l y (k + 1) = rgT n l y k ++ rgX n y k (l.getD k (0, false, 0, 0)) := by
  unfold rgT
  rw [List.range_succ, List.flatMap_append]
  simp
theorem rgX_len (n : Int) (y : Tm) (k : Nat) (x : Al) : (rgX n y k x).length = x.2.2.1.toNat + 1 := by unfold rgX; simp
theorem rgT_len {n : Int} {l : List Al} {y : Tm} (h : ∀ x ∈ l, alF x = 0) : ∀ {k : Nat}, k ≤ l.length → (rgT n l y k).length ≤ 6 * k
  | 0, _ => by simp [rgT]
  | k + 1, hk => by
    rw [rgT_succ, List.length_append, rgX_len]
    have := rgT_len (n := n) (y := y) h (k := k) (by omega)
    have := (alF_in (h _ (alm_mem (show k < l.length by omega)))).2.1
    omega
/-- An alarm's whole block. -/
def ABh (W : World) (b : Nat) (x : Al) : Prop := W.heap[b]? = some (.cells #[.int .i64 x.1, .bool x.2.1, .int .i64 x.2.2.1, .int .i64 x.2.2.2] 32 (0, 0))
theorem ABh.cells {W : World} {b : Nat} {x : Al} (h : ABh W b x) : ABx W b x := by
  unfold ABh at h
  refine ⟨?_, ?_, ?_, ?_⟩ <;> simp [World.cell?, h]
theorem ABh.on {W W' : World} {b : Nat} {x : Al} (h : ABh W b x) (q : Below W.heap.size W W') : ABh W' b x := (q.block b (ecell_in h.cells.1)).trans h
theorem row_ne {w : World} {n0 : Nat} {e t : TypeId} {k : Nat} {v : Value} {n : Nat} {xs : List Value} {b : Nat} {cs : Array Value} {fr : Nat × Nat} (h : w.ownsRow n0 e k v n xs) (hb : w.heap[b]? = some (.cells cs t fr)) (ht : t ≠ e) : some b ≠ v.ownBlock := by
  rcases h.2 with ⟨rfl, _⟩ | ⟨g, cap, cur, rfl, _, hg, _⟩
  · intro q; cases q
  · intro q
    have q' : b = g := by simpa [Value.ownBlock] using q
    subst q'
    rw [hg] at hb
    have := Option.some.inj hb
    injection this with _ z _
    exact ht z.symm
theorem mul_in {u : Nat} {x : Int} (hu : u ≤ 5) (h1 : 0 ≤ x) (h2 : x ≤ 10000) : 0 ≤ (u : Int) * x ∧ (u : Int) * x ≤ 50000 := by
  rcases (by omega : u = 0 ∨ u = 1 ∨ u = 2 ∨ u = 3 ∨ u = 4 ∨ u = 5) with rfl | rfl | rfl | rfl | rfl | rfl <;> omega
theorem map_snoc {α : Type} (f : Nat → α) (l : List α) (u : Nat) : l ++ (List.range (u + 1)).map f = (l ++ (List.range u).map f) ++ [f u] := by
  rw [List.range_succ, List.map_append, List.append_assoc]
  rfl
theorem wnm2 {n : Nat} {w w' : World} (_ : Below n w w') : ∃ x, x = w' := ⟨_, rfl⟩
set_option maxRecDepth 100000 in
set_option maxHeartbeats 8000000 in
theorem ringsOf_any (e : Evt) (s : Evs) (y : Tm) (w : World) (hv : EvB w e s) (h : evF e = 0) (y1 : 0 ≤ y.2.1) (y2 : y.2.1 ≤ 200000000) :
    Calls Tryz.prog 94 #[.agg (ecells e s), .agg #[.int .i64 y.1, .int .i64 y.2.1, .int .i64 y.2.2]] w fun x w' => ∃ u, x = .returned u ∧ w'.ownsRow w.heap.size 45 5 u (rgO e.len e.alm y).length ((rgO e.len e.alm y).flatMap (encR e.name)) ∧ Below w.heap.size w w' := by
  obtain ⟨i0, hi, hz0, hz1, hz2⟩ := info_parts info_rg
  obtain ⟨h1, h2⟩ := (evF_lens h).2.2.2.2.2
  obtain ⟨h3, h4⟩ := evF_alm h
  have R0 := EBox.new w e s 40
  have b1 : Below w.heap.size w (w.alloc (.cells (ecells e s) 40)) := (Below.refl _ _).alloc (Nat.le_refl _) _
  have z1 : (w.alloc (.cells (ecells e s) 40)).heap.size = w.heap.size + 1 := World.size_alloc _ _
  have b2 : Below (w.alloc (.cells (ecells e s) 40)).heap.size (w.alloc (.cells (ecells e s) 40)) ((w.alloc (.cells (ecells e s) 40)).alloc (.cells #[.int .i64 y.1, .int .i64 y.2.1, .int .i64 y.2.2] 145)) := (Below.refl _ _).alloc (Nat.le_refl _) _
  have R1 := R0.on b2
  have C : ((w.alloc (.cells (ecells e s) 40)).alloc (.cells #[.int .i64 y.1, .int .i64 y.2.1, .int .i64 y.2.2] 145)).cell? ⟨w.heap.size + 1, 0, none⟩ = some (.int .i64 y.1) ∧ ((w.alloc (.cells (ecells e s) 40)).alloc (.cells #[.int .i64 y.1, .int .i64 y.2.1, .int .i64 y.2.2] 145)).cell? ⟨w.heap.size + 1, 1, none⟩ = some (.int .i64 y.2.1) := by
    rw [← z1]
    constructor <;> simp
  have bb := b1.trans (b2.mono b1.size)
  have VA := (hv.on bb).2.2.2.2.2.2.2
  obtain ⟨W0, hW⟩ : ∃ W0, W0 = (w.alloc (.cells (ecells e s) 40)).alloc (.cells #[.int .i64 y.1, .int .i64 y.2.1, .int .i64 y.2.2] 145) := ⟨_, rfl⟩
  rw [← hW] at R1 C bb VA
  have HW := Lib.hid hW
  have HB := Lib.hid bb
  have HE := Lib.hid R1
  have HY := Lib.hid C
  have H4 := Lib.hid h4
  have c16 := R1.2.2.2.2.2
  obtain ⟨va, vc, ev, hc⟩ := VA
  rw [ev] at c16
  have HC := Lib.hid hc
  have cl := R1.lt
  have SZ := Lib.hid bb.size
  have GL := Lib.hid (fun k q => rgT_len (n := e.len) (y := y) h4 (k := k) q)
  have GS := Lib.hid (fun k => rgT_succ e.len e.alm y k)
  have GO : Hid (rgO e.len e.alm y = rgT e.len e.alm y e.alm.length) := Lib.hid rfl
  generalize rgO e.len e.alm y = RO at GO ⊢
  clear hW hc R0 R1 b1 z1 b2 bb h h4 hv ev C
  go_enter Tryz.func94, Tryz.ntmps94
  go_upto_region 1 with fail
  rw [← HW.out]
  clear HW
  go_wp2_with fail
  clear c16 cl
  go_loopw [5, 6, 7, 8, 9, 13] (fun lv _ _ _ _ iv wr => ∃ k : Nat, k ≤ e.alm.length ∧ iv = .int .i64 k ∧ wr.ownsRow W0.heap.size 45 5 lv (rgT e.len e.alm y k).length ((rgT e.len e.alm y k).flatMap (encR e.name)) ∧ Below W0.heap.size W0 wr) (fun _ _ _ _ _ iv _ => e.alm.length - (intOf iv).toNat)
  case atStart => exact ⟨0, Nat.zero_le _, rfl, World.ownsRow_nil _ _ _ _, Below.refl _ _⟩
  case round =>
    obtain ⟨k, hk, rfl, hown, hB⟩ := hrel
    have HBr := Lib.hid hB
    have HO := Lib.hid hown
    by_cases hlt : k < e.alm.length
    · rcases HC.out with hc | ⟨lb, lo, rfl, hc⟩
      · rw [hc] at hlt; simp at hlt
      obtain ⟨k0, k1, k2, k3⟩ := hc k hlt
      have ax := H4.out _ (alm_mem hlt)
      have gl := GL.out k (by omega)
      have GK := Lib.hid (GS.out k)
      generalize e.alm.getD k (0, false, 0, 0) = X at k0 k1 k2 k3 ax GK
      obtain ⟨x1, x2, x3, x4⟩ := X
      dsimp only at k0 k1 k2 k3
      obtain ⟨⟨o1, o2⟩, ⟨r1, r2⟩, ⟨p1, p2⟩, _⟩ := alF_in ax
      dsimp only at o1 o2 r1 r2 p1 p2
      have bi := bhd_in ax h1 h2
      have q0 := (hB.cell (p := ⟨lb, lo + k * 4, none⟩) (ecell_in k0)).trans k0
      have q1 := (hB.cell (p := ⟨lb, lo + k * 4 + 1, none⟩) (ecell_in k0)).trans k1
      have q2 := (hB.cell (p := ⟨lb, lo + k * 4 + 2, none⟩) (ecell_in k0)).trans k2
      have q3 := (hB.cell (p := ⟨lb, lo + k * 4 + 3, none⟩) (ecell_in k0)).trans k3
      have lb2 := ecell_in q0
      have b3 : Below wr.heap.size wr (wr.alloc (.cells #[.int .i64 x1, .bool x2, .int .i64 x3, .int .i64 x4] 32)) := (Below.refl _ _).alloc (Nat.le_refl _) _
      have A3 : ABh (wr.alloc (.cells #[.int .i64 x1, .bool x2, .int .i64 x3, .int .i64 x4] 32)) wr.heap.size (x1, x2, x3, x4) := heap_alloc_new wr _
      obtain ⟨W3, hW3⟩ : ∃ W3, W3 = wr.alloc (.cells #[.int .i64 x1, .bool x2, .int .i64 x3, .int .i64 x4] 32) := ⟨_, rfl⟩
      rw [← hW3] at b3 A3
      have HW3 := Lib.hid hW3
      have BW := Lib.hid (HBr.out.trans (b3.mono HBr.out.size))
      have HA3 := Lib.hid A3
      have HO3 := Lib.hid (ow_below hown b3)
      have KM := Lib.hid (fun W (_ : Below W3.heap.size W3 W) => alBeh_any e s x1 x2 x3 x4 W h1 h2 o1 o2)
      clear hc k0 k1 k2 k3 hB b3 A3 hW3 ax HBr hown HO
      go_upto_region 5 with fail
      rw [← HW3.out]
      clear HW3 q0 q1 q2 q3 lb2
      obtain ⟨f0, f1, f2, f3, f4, f5, f6, f7, f8, f9, f10, f11, f12, f13, f14, f15, f16⟩ := ebox17 (HE.out.on BW.out)
      obtain ⟨a0, a1, a2, a3⟩ := HA3.out.cells
      dsimp only at a0 a1 a2 a3
      have t1 := (BW.out.cell (p := ⟨w.heap.size + 1, 1, none⟩) (ecell_in HY.out.2)).trans HY.out.2
      have n0 := cell_regrown f0
      have n1 := cell_regrown f1
      have n2 := cell_regrown f2
      have n3 := cell_regrown f3
      have n4 := cell_regrown f4
      have n5 := cell_regrown f5
      have n6 := cell_regrown f6
      have n7 := cell_regrown f7
      have n8 := cell_regrown f8
      have n9 := cell_regrown f9
      have n10 := cell_regrown f10
      have n11 := cell_regrown f11
      have n12 := cell_regrown f12
      have n13 := cell_regrown f13
      have n14 := cell_regrown f14
      have n15 := cell_regrown f15
      have n16 := cell_regrown f16
      have e0 := cell_regrown a0
      have e1 := cell_regrown a1
      have e2 := cell_regrown a2
      have e3 := cell_regrown a3
      have e4 := cell_regrown t1
      clear f0 f1 f2 f3 f4 f5 f6 f7 f8 f9 f10 f11 f12 f13 f14 f15 f16 a0 a1 a2 a3 t1
      refine wp_region_quiet_below (by kernel_rfl) (by kernel_rfl) ?_
      repeat (quiet_step (first | (go_at_call 126; exact Calls.regrown_of (KM.out _ (below_regrown W3 _ _)))))
      refine wpQuiet_nil ?_
      intro _ hw'
      obtain ⟨⟨dq, osq⟩, hw''⟩ := hw'
      subst hw''
      have hb5 := below_regrown W3 dq osq
      have B5 := Lib.hid (BW.out.trans (hb5.mono BW.out.size))
      have HA5 := Lib.hid (HA3.out.on hb5)
      have HO5 := Lib.hid (ow_below HO3.out hb5)
      clear n0 n1 n2 n3 n4 n5 n6 n7 n8 n9 n10 n11 n12 n13 n14 n15 n16 e0 e1 e2 e3 e4 KM HO3 HA3 BW hb5
      generalize Sort.grow (redrawn W3 dq) osq = W5 at B5 HA5 HO5 ⊢
      obtain ⟨FI, hFI⟩ : ∃ FI, FI = y.2.1 + bhd e.len (x1, x2, x3, x4) := ⟨_, rfl⟩
      have fi1 : -100000 ≤ FI := by omega
      have fi2 : FI ≤ 300000000 := by omega
      rw [← hFI]
      have RG : Hid (∀ u : Nat, rg1 e.len y k (x1, x2, x3, x4) u = (FI + u * x4, y.1, (k : Int), (u : Int))) := Lib.hid (fun u => by rw [hFI]; rfl)
      have GX : Hid (rgX e.len y k (x1, x2, x3, x4) = (List.range (x3.toNat + 1)).map (rg1 e.len y k (x1, x2, x3, x4))) := Lib.hid rfl
      generalize rgX e.len y k (x1, x2, x3, x4) = XS at GX GK
      generalize rg1 e.len y k (x1, x2, x3, x4) = RF at RG GX
      generalize rgT e.len e.alm y k = RT at GK HO5 gl
      obtain ⟨bA, hbA⟩ : ∃ bA, bA = wr.heap.size := ⟨_, rfl⟩
      rw [← hbA] at HA5 ⊢
      have SW := Lib.hid B5.out.size
      have EN := Lib.hid (fun W (q : Below W0.heap.size W0 W) => (HE.out.on q).1.1)
      clear hFI hbA bi
      obtain ⟨a0, a1, a2, a3⟩ := HA5.out.cells
      have al := ecell_in a0
      dsimp only at a0 a1 a2 a3
      go_wp2_with fail
      clear a0 a1 a2 a3 al
      go_loopw [5, 9, 27] (fun lv _ iv wq => ∃ u : Nat, (u : Int) ≤ x3 + 1 ∧ iv = .int .i64 u ∧ wq.ownsRow W0.heap.size 45 5 lv (RT ++ (List.range u).map RF).length ((RT ++ (List.range u).map RF).flatMap (encR e.name)) ∧ ABh wq bA (x1, x2, x3, x4) ∧ Below W0.heap.size W0 wq) (fun _ _ iv _ => x3.toNat + 1 - (intOf iv).toNat)
      case atStart => exact ⟨0, by omega, rfl, by simpa using HO5.out, HA5.out, B5.out⟩
      case round =>
        obtain ⟨u, hu, rfl, hown, hA, hB⟩ := hrel
        obtain ⟨wx, hwx⟩ := wnm2 hB
        subst hwx
        have HO := Lib.hid hown
        have HBx := Lib.hid hB
        have HAx := Lib.hid hA
        by_cases hlt : (u : Int) < x3 + 1
        · obtain ⟨a0, a1, a2, a3⟩ := hA.cells
          have al := ecell_in a0
          dsimp only at a0 a1 a2 a3
          have c0 := EN.out _ hB
          have cl := ecell_in c0
          have c1 := (hB.cell (p := ⟨w.heap.size + 1, 0, none⟩) (ecell_in HY.out.1)).trans HY.out.1
          have cl2 := ecell_in c1
          obtain ⟨UM, mu⟩ : ∃ UM, (u : Int) * x4 = UM := ⟨_, rfl⟩
          obtain ⟨m1, m2⟩ := mul_in (u := u) (x := x4) (by omega) p1 p2
          rw [mu] at m1 m2
          have RU : Hid (RF u = (FI + UM, y.1, (k : Int), (u : Int))) := Lib.hid (by rw [RG.out u, mu])
          have MS := Lib.hid (map_snoc RF RT u)
          have fl : (RT ++ (List.range u).map RF).length ≤ 60 := by
            rw [List.length_append, List.length_map, List.length_range]
            omega
          have NE := Lib.hid (row_ne hown hA (by decide))
          have sz := hB.size
          generalize (List.range u).map RF = RM at HO MS fl hown
          generalize RT ++ RM = RS at HO MS fl hown
          clear hown hA a0 a1 a2
          go_wp2_with (at_builtin; refine wpList_append_own _ rfl _ _ 41 rfl W0.heap.size 45 i0 (.agg #[.int .i64 0, .string ⟨#[]⟩, .int .i64 0, .int .i64 0, .int .i64 0]) 5 48 Tryz.underlying41 hi hz0 hz1 hz2 rfl (by decide) _ _ _ rfl (HO.out.alloc _) ⟨wx.heap.size, 0, none⟩ 1 1 [.int .i64 (FI + UM), .string e.name, .int .i64 y.1, .int .i64 (k : Int), .int .i64 (u : Int)] rfl rfl ?d1 ?d2 ?d3 ?d4 ?d5 ?_)
          case d1 =>
            intro j u hj
            match j, hj with
            | 0, hj => simp at hj; subst hj; simp [Addr.add]
            | 1, hj => simp at hj; subst hj; simp [Addr.add]
            | 2, hj => simp at hj; subst hj; simp [Addr.add]
            | 3, hj => simp at hj; subst hj; simp [Addr.add]
            | 4, hj => simp at hj; subst hj; simp [Addr.add]
          case d2 => intro u hu; simp at hu; rcases hu with rfl | rfl | rfl | rfl | rfl <;> rfl
          case d3 => unfold maxLen; omega
          case d4 => omega
          case d5 => simp; omega
          intro v' w6 hown' hgrow _
          have Q2 := Lib.hid (ow_grow HBx.out.size HBx.out (Below.refl _ _) HO.out hgrow)
          have Q3 : Hid (ABh w6 bA (x1, x2, x3, x4)) := Lib.hid ((hgrow.block bA (by rw [World.size_alloc]; omega) NE.out).trans (HAx.out.on ((Below.refl _ _).alloc (Nat.le_refl _) _)))
          have Q1 : Hid (w6.ownsRow W0.heap.size 45 5 v' (RS ++ [RF u]).length ((RS ++ [RF u]).flatMap (encR e.name))) := Lib.hid (by
            rw [List.length_append, List.flatMap_append, RU.out]
            exact hown')
          clear hown' hgrow HO a3 c0 c1
          go_wp2
          go_roundw
          case rel => exact ⟨u + 1, by omega, by go_num, by rw [MS.out]; exact Q1.out, Q3.out, Q2.out⟩
          case measure => simp [intOf]; omega
        · have eu : u = x3.toNat + 1 := by omega
          have Q1 := Lib.hid HO.out
          rw [eu, ← GX.out, ← GK.out] at Q1
          clear eu hown hA HO
          go_wp2
          go_roundw
          case rel => exact ⟨k + 1, by omega, by go_num, Q1.out, HBx.out⟩
          case measure => simp [intOf]; omega
    · have ek : k = e.alm.length := by omega
      have O9 := HO.out
      rw [ek, ← GO.out] at O9
      have ZZ := Lib.hid (And.intro (own_mono O9 SZ.out) (HB.out.trans (hB.mono HB.out.size)))
      clear O9 HO hown ek
      go_wp2
      go_ret
      exact ⟨_, rfl, ZZ.out.1, ZZ.out.2⟩
end Go.Proofs.YthdohcjingfpoaaGreatDoor
namespace Go.Proofs.YthdohcjingfpoaaGreatDoor
open Go.RowKit Cal Txt

/-- Cells hold rings, and may be written. -/
def Hol5 (nm : ByteArray) (w : World) (b off : Nat) (l : List Rg) : Prop := ∀ j, j < l.length → w.rangeAt b (off + j * 5) (encR nm (l.getD j (0, 0, 0, 0))) ∧ ∀ c, c < 5 → w.frozen? ⟨b, off + j * 5 + c, none⟩ = false
theorem Hol5.cells {nm : ByteArray} {w : World} {b off : Nat} {l : List Rg} (h : Hol5 nm w b off l) {j : Nat} (hj : j < l.length) : w.cell? ⟨b, off + j * 5, none⟩ = some (.int .i64 (l.getD j (0, 0, 0, 0)).1) ∧ w.cell? ⟨b, off + j * 5 + 1, none⟩ = some (.string nm) ∧ w.cell? ⟨b, off + j * 5 + 2, none⟩ = some (.int .i64 (l.getD j (0, 0, 0, 0)).2.1) ∧ w.cell? ⟨b, off + j * 5 + 3, none⟩ = some (.int .i64 (l.getD j (0, 0, 0, 0)).2.2.1) ∧ w.cell? ⟨b, off + j * 5 + 4, none⟩ = some (.int .i64 (l.getD j (0, 0, 0, 0)).2.2.2) := by
  have r := (h j hj).1
  exact ⟨r 0 _ rfl, r 1 _ rfl, r 2 _ rfl, r 3 _ rfl, r 4 _ rfl⟩
theorem Hol5.lt {nm : ByteArray} {w : World} {b off : Nat} {l : List Rg} (h : Hol5 nm w b off l) (h0 : 0 < l.length) : b < w.heap.size := ecell_in (h.cells h0).1
theorem Hol5.on {nm : ByteArray} {w W : World} {b off : Nat} {l : List Rg} (h : Hol5 nm w b off l) (q : Below w.heap.size w W) : Hol5 nm W b off l := fun j hj => by
  have hb : b < w.heap.size := ecell_in (h.cells hj).1
  obtain ⟨c, f⟩ := bcell q
  exact ⟨fun i v hv => (c _ _ hb).trans ((h j hj).1 i v hv), fun i hi => (f _ _ hb).trans ((h j hj).2 i hi)⟩
theorem Hol5.take {nm : ByteArray} {w : World} {b off : Nat} {l : List Rg} (h : Hol5 nm w b off l) (i : Nat) : Hol5 nm w b off (l.take i) := fun j hj => by
  rw [List.length_take] at hj
  have := h j (by omega)
  rwa [List.getD_eq_getElem?_getD, List.getElem?_take, if_pos (by omega), ← List.getD_eq_getElem?_getD]
theorem Hol5.there {nm : ByteArray} {w : World} {b off : Nat} {l : List Rg} (h : Hol5 nm w b off l) {i : Nat} (hi : i < l.length) : w.there b (off + i * 5) 5 := fun j hj => by
  obtain ⟨r, f⟩ := h i hi
  have e : (encR nm (l.getD i (0, 0, 0, 0)))[j]? = some ((encR nm (l.getD i (0, 0, 0, 0)))[j]'hj) := List.getElem?_eq_getElem hj
  exact ⟨by rw [r j _ e]; rfl, f j hj⟩
theorem Hol5.store {nm : ByteArray} {w : World} {b off : Nat} {l : List Rg} (h : Hol5 nm w b off l) {i : Nat} (hi : i < l.length) (x : Rg) : Hol5 nm (w.setCells b (off + i * 5) (encR nm x)) b off (l.set i x) := fun j hj => by
  rw [List.length_set] at hj
  refine ⟨?_, fun c hc => by rw [World.frozen?_setCells]; exact (h j hj).2 c hc⟩
  by_cases e : j = i
  · subst e
    have e2 : (l.set j x).getD j (0, 0, 0, 0) = x := by rw [List.getD_eq_getElem?_getD, List.getElem?_set_self hj]; rfl
    rw [e2]
    exact World.rangeAt_setCells_same w b (off + j * 5) (encR nm x) (h.there hi)
  · have e2 : (l.set i x).getD j (0, 0, 0, 0) = l.getD j (0, 0, 0, 0) := by rw [List.getD_eq_getElem?_getD, List.getElem?_set_ne (by omega), ← List.getD_eq_getElem?_getD]
    rw [e2]
    intro c v hv
    have hc : c < 5 := (List.getElem?_eq_some_iff.1 hv).1
    rw [World.cell?_setCells_out _ _ _ _ _ (fun _ _ => by show off + j * 5 + c < off + i * 5 ∨ off + i * 5 + 5 ≤ off + j * 5 + c; omega)]
    exact (h j hj).1 c v hv
theorem Hol5.cut {nm : ByteArray} {w : World} {b off : Nat} {l : List Rg} (h : Hol5 nm w b off l) (i : Nat) (vs : List Value) : Hol5 nm (w.setCells b (off + i * 5) vs) b off (l.take i) := fun j hj => by
  have hj2 := hj
  rw [List.length_take] at hj2
  obtain ⟨r, f⟩ := (h.take i) j hj
  refine ⟨fun c v hv => ?_, fun c hc => by rw [World.frozen?_setCells]; exact f c hc⟩
  have hc : c < 5 := (List.getElem?_eq_some_iff.1 hv).1
  rw [World.cell?_setCells_out _ _ _ _ _ (fun _ _ => Or.inl (by show off + j * 5 + c < off + i * 5; omega))]
  exact r c v hv
theorem Hol5.cellsAt {nm : ByteArray} {w : World} {b off : Nat} {l : List Rg} (h : Hol5 nm w b off l) (i : Nat) (j : Nat) (hj : j < (l.length - i) * 5) : (w.cell? ⟨b, off + i * 5 + j, none⟩).isSome = true ∧ w.frozen? ⟨b, off + i * 5 + j, none⟩ = false := by
  have q := h.there (i := i + j / 5) (by omega) (j % 5) (by omega)
  rwa [show off + (i + j / 5) * 5 + j % 5 = off + i * 5 + j by omega] at q
theorem Hol5.rowK {nm : ByteArray} {w : World} {b off cap : Nat} {l : List Rg} (h : Hol5 nm w b off l) : RowK (encR nm) w (.slice (some ⟨b, off, none⟩) l.length cap) l :=
  ⟨_, _, rfl, Or.inr ⟨b, off, rfl, fun j u hu => by
    have hl : j < l.length * 5 := by have := (List.getElem?_eq_some_iff.1 hu).1; rwa [flat_len (encR nm) 5 (fun _ => rfl)] at this
    have q := flat_at (encR nm) 5 (fun _ => rfl) l (j / 5) (j % 5) (by omega) (by omega)
    rw [show j / 5 * 5 + j % 5 = j by omega, hu] at q
    have := (h (j / 5) (by omega)).1 (j % 5) u q.symm
    rwa [show off + j / 5 * 5 + j % 5 = off + j by omega] at this⟩⟩
theorem own_hol5 {nm : ByteArray} {w : World} {n0 n : Nat} {v : Value} {l : List Rg} (h : w.ownsRow n0 45 5 v n (l.flatMap (encR nm))) : (v = .slice none 0 0 ∧ l = []) ∨ ∃ g cap, v = .slice (some ⟨g, 0, none⟩) l.length cap ∧ n0 ≤ g ∧ g < w.heap.size ∧ l.length ≤ cap ∧ Hol5 nm w g 0 l := by
  rcases (own_openK (encR nm) 5 (fun _ => rfl) (by decide) h).2 with q | ⟨g, cap, hv, h1, h2, h3, hh⟩
  · exact Or.inl q
  · refine Or.inr ⟨g, cap, hv, h1, h2, h3, fun j hj => ⟨fun c v' hv' => ?_, fun c hc => ?_⟩⟩
    · have hc : c < 5 := (List.getElem?_eq_some_iff.1 hv').1
      have q := (hh (j * 5 + c) (by simp; omega)).1
      rw [Sort.get_flatK _ _ _ _ (by simp; omega), show (j * 5 + c) / 5 = j by omega, show (j * 5 + c) % 5 = c by omega, getK l j hj] at q
      have e2 : (encR nm (l.getD j default))[c]! = v' := by
        have e3 : (encR nm (l.getD j (0, 0, 0, 0)))[c]? = some v' := hv'
        exact (List.getElem!_eq_getElem?_getD ..).trans (by rw [show (encR nm (l.getD j default))[c]? = some v' from e3]; rfl)
      rw [e2] at q
      rw [Nat.zero_add] at q ⊢
      exact q
    · have q := (hh (j * 5 + c) (by simp; omega)).2
      rw [Nat.zero_add] at q ⊢
      exact q
/-- clear, at rings. -/
def zr5 : List Value := [.int .i64 0, .string ⟨#[]⟩, .int .i64 0, .int .i64 0, .int .i64 0]
def zrs (n : Nat) : List Value := (List.range (n * 5)).map (fun i => zr5.getD (i % 5) undef)
theorem run_clear5 (w : World) (ty : TypeId) (b o n c : Nat) (hn : 0 < n) (hc : ∀ j, j < n * 5 → (w.cell? ⟨b, o + j, none⟩).isSome = true) (hf : ∀ j, j < n * 5 → w.frozen? ⟨b, o + j, none⟩ = false) :
    (Builtin.clear_ #[41] ty #[.slice (some ⟨b, o, none⟩) n c]).run Tryz.prog w = .ok (.tuple #[]) (w.setCells b o (zrs n)) := by
  have hv : ∀ w, (zeroValue 45).run Tryz.prog w = .ok (.agg zr5.toArray) w := fun _ => by kernel_rfl
  have hzc : (Builtin.zeroCells (Value.agg zr5.toArray).cells n).toList = zrs n := by
    show (Builtin.zeroCells zr5.toArray n).toList = _
    simp only [Builtin.zeroCells, Array.toList_map, zrs]
    apply List.ext_getElem
    · simp [zr5]
    · intro i h1 h2
      have : i % 5 < 5 := Nat.mod_lt _ (by decide)
      rcases (by omega : i % 5 = 0 ∨ i % 5 = 1 ∨ i % 5 = 2 ∨ i % 5 = 3 ∨ i % 5 = 4) with q | q | q | q | q <;> simp [q, zr5]
  have hone : ∀ v ∈ zrs n, v.oneCell' = true := fun v hv' => by
    unfold zrs at hv'
    obtain ⟨i, _, rfl⟩ := List.mem_map.1 hv'
    have : i % 5 < 5 := Nat.mod_lt _ (by decide)
    rcases (by omega : i % 5 = 0 ∨ i % 5 = 1 ∨ i % 5 = 2 ∨ i % 5 = 3 ∨ i % 5 = 4) with q | q | q | q | q <;> rw [q] <;> rfl
  have hst := run_storeCells_cells (P := Tryz.prog) b o (zrs n) 0 w (by simpa [zrs] using hc) (by simpa [zrs] using hf) hone
  simp only [Nat.add_zero] at hst
  obtain ⟨m, rfl⟩ : ∃ m, n = m + 1 := ⟨n - 1, by omega⟩
  simp [Builtin.clear_, run_underlying Tryz.underlying41, hv, hzc, hst]
/-- How far the deleting has come. -/
def DInv5 (l : List Rg) (p : Rg → Bool) (j i : Nat) (d : List Rg) : Prop :=
  d.length = l.length ∧ i < j ∧ j ≤ l.length ∧ d.take i = (l.take j).filter (fun x => !p x) ∧ ∀ t, j ≤ t → d.getD t (0, 0, 0, 0) = l.getD t (0, 0, 0, 0)
theorem DInv5.begin {l : List Rg} {p : Rg → Bool} {k : Nat} (hk : k < l.length) (ha : (l.take k).any p = false) (hp : p (l.getD k (0, 0, 0, 0)) = true) : DInv5 l p (k + 1) k l := by
  refine ⟨rfl, by omega, by omega, ?_, fun t _ => rfl⟩
  rw [List.take_succ_eq_append_getElem hk, List.filter_append]
  rw [List.getD_eq_getElem?_getD, List.getElem?_eq_getElem hk] at hp
  have hp' : p l[k] = true := hp
  rw [List.filter_eq_self.2 (fun x hx => by have := List.any_eq_false.1 ha x hx; simpa using this)]
  simp [hp']
theorem DInv5.skip {l : List Rg} {p : Rg → Bool} {j i : Nat} {d : List Rg} (h : DInv5 l p j i d) (hj : j < l.length) (hp : p (l.getD j (0, 0, 0, 0)) = true) : DInv5 l p (j + 1) i d := by
  obtain ⟨a, b, c, e, f⟩ := h
  refine ⟨a, by omega, by omega, ?_, fun t ht => f t (by omega)⟩
  rw [List.getD_eq_getElem?_getD, List.getElem?_eq_getElem hj] at hp
  have hp' : p l[j] = true := hp
  rw [List.take_succ_eq_append_getElem hj, List.filter_append, ← e]
  simp [hp']
theorem DInv5.keep {l : List Rg} {p : Rg → Bool} {j i : Nat} {d : List Rg} (h : DInv5 l p j i d) (hj : j < l.length) (hp : p (l.getD j (0, 0, 0, 0)) = false) : DInv5 l p (j + 1) (i + 1) (d.set i (l.getD j (0, 0, 0, 0))) := by
  obtain ⟨a, b, c, e, f⟩ := h
  refine ⟨by simpa using a, by omega, by omega, ?_, fun t ht => ?_⟩
  · rw [List.take_succ_eq_append_getElem (l := l) hj, List.filter_append, ← e]
    rw [List.getD_eq_getElem?_getD, List.getElem?_eq_getElem hj] at hp ⊢
    have hp' : p l[j] = false := hp
    rw [List.take_succ_eq_append_getElem (by rw [List.length_set]; omega), List.take_set_of_le (Nat.le_refl _)]
    simp [hp']
  · rw [List.getD_eq_getElem?_getD, List.getElem?_set_ne (by omega), ← List.getD_eq_getElem?_getD]
    exact f t (by omega)
theorem DInv5.done {l : List Rg} {p : Rg → Bool} {i : Nat} {d : List Rg} (h : DInv5 l p l.length i d) : d.take i = l.filter (fun x => !p x) := by
  have := h.2.2.2.1
  rwa [List.take_length] at this
theorem any_tk5 (p : Rg → Bool) (l : List Rg) (k : Nat) (h : k < l.length) (ha : (l.take k).any p = false) (hp : p (l.getD k (0, 0, 0, 0)) = false) : (l.take (k + 1)).any p = false := by
  rw [List.take_succ_eq_append_getElem h, List.any_append, ha, List.any_cons, List.any_nil]
  rw [List.getD_eq_getElem?_getD, List.getElem?_eq_getElem h] at hp
  simpa using hp
end Go.Proofs.YthdohcjingfpoaaGreatDoor
namespace Go.Proofs.YthdohcjingfpoaaGreatDoor
open Go.RowKit Cal Txt

/-- A ring in a block. -/
def RBx (nm : ByteArray) (W : World) (b : Nat) (x : Rg) : Prop := W.cell? ⟨b, 0, none⟩ = some (.int .i64 x.1) ∧ W.cell? ⟨b, 1, none⟩ = some (.string nm) ∧ W.cell? ⟨b, 2, none⟩ = some (.int .i64 x.2.1) ∧ W.cell? ⟨b, 3, none⟩ = some (.int .i64 x.2.2.1) ∧ W.cell? ⟨b, 4, none⟩ = some (.int .i64 x.2.2.2)
theorem RBx.on {nm : ByteArray} {W W' : World} {b : Nat} {x : Rg} (h : RBx nm W b x) (q : Below W.heap.size W W') : RBx nm W' b x := by
  have l := ecell_in h.1
  exact ⟨(q.cell (p := ⟨b, 0, none⟩) l).trans h.1, (q.cell (p := ⟨b, 1, none⟩) l).trans h.2.1, (q.cell (p := ⟨b, 2, none⟩) l).trans h.2.2.1, (q.cell (p := ⟨b, 3, none⟩) l).trans h.2.2.2.1, (q.cell (p := ⟨b, 4, none⟩) l).trans h.2.2.2.2⟩
theorem RBx.new (nm : ByteArray) (W : World) (x : Rg) (t : TypeId) : RBx nm (W.alloc (.cells #[.int .i64 x.1, .string nm, .int .i64 x.2.1, .int .i64 x.2.2.1, .int .i64 x.2.2.2] t)) W.heap.size x := by
  refine ⟨?_, ?_, ?_, ?_, ?_⟩ <;> simp
/-- A ring is stored into a row. -/
theorem rg_store (nm : ByteArray) {ops : Array Oper} {rest : List Oper} {op : Oper} {a : Act} {W : World} {Q : Exit → Act → World → Prop} (hgd : op.guard = none) (x y : Operand) (ho : op.op = .store 45 x y) (hd : op.dst = none)
    (b o : Nat) (c : Rg) (hx : a.eval x = .pointer (some ⟨b, o, none⟩)) (hy : a.eval y = .agg #[.int .i64 c.1, .string nm, .int .i64 c.2.1, .int .i64 c.2.2.1, .int .i64 c.2.2.2]) (ht : W.there b o 5)
    (h : wpList Tryz.prog ops Q rest a (W.setCells b o (encR nm c))) : wpList Tryz.prog ops Q (op :: rest) a W := by
  refine wpList_store_mid hgd 45 x y ho b o #[.int .i64 c.1, .string nm, .int .i64 c.2.1, .int .i64 c.2.2.1, .int .i64 c.2.2.2] hx hy ht (by kernel_rfl) (by simp [Value.oneCell']) ?_
  rw [hd]
  exact h
/-- How the closure answers, whatever is beside one block. -/
def ClR (nm : ByteArray) (b : Nat) (w : World) (c1 c2 : Value) (p : Rg → Bool) : Prop :=
  ∀ (c : Rg) (W : World), Apt b w W → Calls Tryz.prog 93 #[.agg #[.int .i64 c.1, .string nm, .int .i64 c.2.1, .int .i64 c.2.2.1, .int .i64 c.2.2.2], c1, c2] W fun e w' => e = .returned (.bool (p c)) ∧ Below W.heap.size W w'
set_option maxRecDepth 100000 in
set_option maxHeartbeats 1000000 in
theorem idxR (nm : ByteArray) (c1 c2 : Value) (p : Rg → Bool) (l : List Rg) (b off cap : Nat) (w : World) (hC : ClR nm b w c1 c2 p) (hh : Hol5 nm w b off l) (hl : l.length ≤ 1000000) :
    Calls Tryz.prog 114 #[.slice (some ⟨b, off, none⟩) l.length cap, .func (.func 93) #[] #[c1, c2]] w fun e w' => Below w.heap.size w w' ∧
      ((e = .returned (.int .i64 (-1)) ∧ l.any p = false) ∨ ∃ k : Nat, e = .returned (.int .i64 k) ∧ k < l.length ∧ (l.take k).any p = false ∧ p (l.getD k (0, 0, 0, 0)) = true) := by
  have HH := Lib.hid hh
  have HC := Lib.hid hC
  clear hh hC
  have eg : ∀ args w, (callFunc 93 args).run Tryz.prog w = .ok (.enter 93 args) w := enters_of Tryz.func93 (by kernel_rfl) rfl
  go_enter Tryz.func114, Tryz.ntmps114
  go_wp2
  go_loopw [8] (fun i wr => ∃ k : Nat, k ≤ l.length ∧ i = .int .i64 k ∧ (l.take k).any p = false ∧ Below w.heap.size w wr) (fun i _ => l.length - (intOf i).toNat)
  case atStart => exact ⟨0, Nat.zero_le _, rfl, rfl, Below.refl _ _⟩
  case round =>
    obtain ⟨k, hk, rfl, hF, hB⟩ := hrel
    have HF := Lib.hid hF
    have HB := Lib.hid hB
    clear hF
    by_cases hlt : k < l.length
    · obtain ⟨k1, k2, k3, k4, k5⟩ := (HH.out.on hB).cells hlt
      have bl := ecell_in k1
      have K := Lib.hid (HC.out (l.getD k (0, 0, 0, 0)) wr (apt_below b hB))
      obtain ⟨X, hX⟩ : ∃ X, X = l.getD k (0, 0, 0, 0) := ⟨_, rfl⟩
      rw [← hX] at k1 k3 k4 k5 K
      have HX := Lib.hid hX
      clear hX hB
      go_wp2_with fail
      refine K.out.mono ?_
      rintro e w2 ⟨rfl, hb⟩
      have HB2 := Lib.hid (HB.out.trans (hb.mono HB.out.size))
      clear hb K k1 k2 k3 k4 k5 bl
      rcases hp : p X with _ | _
      · have N1 := Lib.hid (any_tk5 p l k hlt HF.out (by rw [← HX.out]; exact hp))
        go_wp2
        go_roundw
        case rel => exact ⟨k + 1, by omega, by go_num, N1.out, HB2.out⟩
        case measure => simp [intOf]; omega
      · have N1 : Hid (p (l.getD k (0, 0, 0, 0)) = true) := Lib.hid (by rw [← HX.out]; exact hp)
        go_wp2
        go_ret
        exact ⟨HB2.out, Or.inr ⟨k, rfl, hlt, HF.out, N1.out⟩⟩
    · have N1 : Hid (l.any p = false) := Lib.hid (by have := HF.out; rwa [List.take_of_length_le (by omega)] at this)
      go_wp2
      go_ret
      exact ⟨HB.out, Or.inl ⟨rfl, N1.out⟩⟩
set_option maxRecDepth 100000 in
set_option maxHeartbeats 4000000 in
theorem delR (nm : ByteArray) (c1 c2 : Value) (p : Rg → Bool) (l : List Rg) (b off cap : Nat) (w : World) (hC : ClR nm b w c1 c2 p) (hh : Hol5 nm w b off l) (h0 : 0 < l.length) (hcap : l.length ≤ cap) (hl : l.length ≤ 1000000) :
    Calls Tryz.prog 70 #[.slice (some ⟨b, off, none⟩) l.length cap, .func (.func 93) #[] #[c1, c2]] w fun e w' => e = .returned (.slice (some ⟨b, off, none⟩) (l.filter (fun x => !p x)).length cap) ∧ Hol5 nm w' b off (l.filter (fun x => !p x)) ∧ Apt b w w' := by
  have K := Lib.hid (idxR nm c1 c2 p l b off cap w hC hh hl)
  have HH := Lib.hid hh
  have HC := Lib.hid hC
  clear hh hC
  have eg : ∀ args w, (callFunc 93 args).run Tryz.prog w = .ok (.enter 93 args) w := enters_of Tryz.func93 (by kernel_rfl) rfl
  go_enter Tryz.func70, Tryz.ntmps70
  go_wp2_with fail
  refine K.out.mono ?_
  rintro e w1 ⟨hb1, hx⟩
  have B1 := Lib.hid hb1
  clear K hb1
  rcases hx with ⟨rfl, ha⟩ | ⟨k, rfl, hk, ha, hp⟩
  · have N : Hid (l.filter (fun x => !p x) = l) := Lib.hid (List.filter_eq_self.2 (fun x hx => by have := List.any_eq_false.1 ha x hx; simpa using this))
    clear ha
    go_wp2
    go_ret
    exact ⟨by rw [N.out]; rfl, by rw [N.out]; exact HH.out.on B1.out, apt_below b B1.out⟩
  · have D0 := Lib.hid (DInv5.begin hk ha hp)
    have nk : ((k : Int) == -1) = false := by simp
    clear ha hp
    go_wp2_with fail
    go_loopw [5, 6, 7] (fun iv jv _ wr => ∃ (i j : Nat) (d : List Rg), iv = .int .i64 i ∧ jv = .int .i64 j ∧ DInv5 l p j i d ∧ Hol5 nm wr b off d ∧ Apt b w wr) (fun _ jv _ _ => l.length - (intOf jv).toNat)
    case atStart => exact ⟨k, k + 1, l, rfl, by go_num, D0.out, HH.out.on B1.out, apt_below b B1.out⟩
    case round =>
      obtain ⟨i, j, d, rfl, rfl, hD, hh, hB⟩ := hrel
      have ij := hD.2.1
      have jl := hD.2.2.1
      have dl := hD.1
      have HD := Lib.hid hD
      have HHd := Lib.hid hh
      have HB := Lib.hid hB
      have bw := hh.lt (by omega)
      clear hD hh hB D0 B1
      by_cases hlt : j < l.length
      · obtain ⟨k1, k2, k3, k4, k5⟩ := HHd.out.cells (j := j) (by omega)
        rw [HD.out.2.2.2.2 j (Nat.le_refl _)] at k1 k3 k4 k5
        obtain ⟨X, hX⟩ : ∃ X, X = l.getD j (0, 0, 0, 0) := ⟨_, rfl⟩
        rw [← hX] at k1 k3 k4 k5
        have HX := Lib.hid hX
        have T3 := RBx.new nm wr X 45
        have b3 : Below wr.heap.size wr (wr.alloc (.cells #[.int .i64 X.1, .string nm, .int .i64 X.2.1, .int .i64 X.2.2.1, .int .i64 X.2.2.2] 45)) := (Below.refl _ _).alloc (Nat.le_refl _) _
        obtain ⟨W3, hW3⟩ : ∃ W3, W3 = wr.alloc (.cells #[.int .i64 X.1, .string nm, .int .i64 X.2.1, .int .i64 X.2.2.1, .int .i64 X.2.2.2] 45) := ⟨_, rfl⟩
        rw [← hW3] at T3 b3
        have HW3 := Lib.hid hW3
        have HT3 := Lib.hid T3
        have B3 := Lib.hid b3
        have K := Lib.hid (HC.out X W3 (HB.out.trans (apt_below b b3)))
        clear hX hW3 T3 b3
        go_upto_region 8 with fail
        rw [← HW3.out]
        clear HW3 k1 k2 k3 k4 k5
        obtain ⟨t0, t1, t2, t3, t4⟩ := HT3.out
        have tl := ecell_in t0
        go_wp2_with fail
        clear t0 t1 t2 t3 t4 tl
        refine K.out.mono ?_
        rintro e w4 ⟨rfl, hb⟩
        have B4 := Lib.hid (B3.out.trans (hb.mono B3.out.size))
        obtain ⟨t0, t1, t2, t3, t4⟩ := HT3.out.on hb
        have tl := ecell_in t0
        clear hb K B3 HT3
        have H4 := Lib.hid (HHd.out.on B4.out)
        have A4 := Lib.hid (HB.out.trans (apt_below b B4.out))
        rcases hp : p X with _ | _
        · have N1 := Lib.hid (HD.out.keep hlt (by rw [← HX.out]; exact hp))
          rw [← HX.out] at N1
          have SH := Lib.hid (H4.out.store (i := i) (by omega) X)
          have SA := Lib.hid (A4.out.trans (apt_cells b (encR nm X) (off + i * 5) w4))
          have TH := Lib.hid (H4.out.there (i := i) (by omega))
          go_wp2_with (refine rg_store nm ?s1 (.tmp 33) (.tmp 32) ?s2 ?s9 b (off + i * 5) X ?s3 ?s4 ?s6 ?s5; (case s1 => rfl); (case s2 => rfl); (case s9 => rfl); (case s3 => rfl); (case s4 => rfl); (case s6 => exact TH.out))
          go_roundw
          case rel => exact ⟨i + 1, j + 1, d.set i X, by go_num, by go_num, N1.out, SH.out, SA.out⟩
          case measure => simp [intOf]; omega
        · have N1 := Lib.hid (HD.out.skip hlt (by rw [← HX.out]; exact hp))
          go_wp2
          go_roundw
          case rel => exact ⟨i, j + 1, d, rfl, by go_num, N1.out, H4.out, A4.out⟩
          case measure => simp [intOf]; omega
      · obtain rfl : j = l.length := by omega
        have hcl : ∀ ty, (Builtin.clear_ #[41] ty #[.slice (some ⟨b, off + i * 5, none⟩) (l.length - i) (cap - i)]).run Tryz.prog wr = .ok (.tuple #[]) (wr.setCells b (off + i * 5) (zrs (l.length - i))) :=
          fun ty => run_clear5 wr ty b (off + i * 5) _ _ (by omega) (fun t ht => (HHd.out.cellsAt i t (by omega)).1) (fun t ht => (HHd.out.cellsAt i t (by omega)).2)
        have S := HHd.out.cut i (zrs (l.length - i))
        have N := HD.out.done
        have N2 : Hid ((l.filter (fun x => !p x)).length = i) := Lib.hid (by rw [← N, List.length_take]; omega)
        rw [N] at S
        have SH := Lib.hid S
        have SA := Lib.hid (HB.out.trans (apt_cells b (zrs (l.length - i)) (off + i * 5) wr))
        clear S N
        go_wp2
        go_ret
        exact ⟨by rw [N2.out]; rfl, SH.out, SA.out⟩
theorem delR_none (a : Option Addr) (cap : Nat) (c1 c2 : Value) (w : World) :
    Calls Tryz.prog 70 #[.slice a 0 cap, .func (.func 93) #[] #[c1, c2]] w fun e w' => e = .returned (.slice a 0 cap) ∧ w' = w := by
  have KI : Calls Tryz.prog 114 #[.slice a 0 cap, .func (.func 93) #[] #[c1, c2]] w fun e w' => e = .returned (.int .i64 (-1)) ∧ w' = w := by
    go_enter Tryz.func114, Tryz.ntmps114
    go_wp2
    go_loop [8] (fun i => i = .int .i64 0) (fun _ => 0)
    case atStart => rfl
    case round =>
      subst hrel
      go_wp2
      go_ret
      exact ⟨rfl, rfl⟩
  have HK := Lib.hid KI
  clear KI
  go_enter Tryz.func70, Tryz.ntmps70
  go_wp2_with fail
  refine HK.out.mono ?_
  rintro e w1 ⟨rfl, hw⟩
  replace hw := hw.symm
  subst hw
  go_wp2
  go_ret
  exact ⟨rfl, rfl⟩
/-- Is a ring out of a stretch? -/
def ouB (fr t : Int) (x : Rg) : Bool := decide (x.1 < fr ∨ t ≤ x.1)
theorem isOut_any (nm : ByteArray) (fr t : Int) (x : Rg) (b1 b2 : Nat) (w : World) (h1 : w.cell? ⟨b1, 0, none⟩ = some (.int .i64 fr)) (h2 : w.cell? ⟨b2, 0, none⟩ = some (.int .i64 t)) :
    Calls Tryz.prog 93 #[.agg #[.int .i64 x.1, .string nm, .int .i64 x.2.1, .int .i64 x.2.2.1, .int .i64 x.2.2.2], .pointer (some ⟨b1, 0, none⟩), .pointer (some ⟨b2, 0, none⟩)] w fun e w' => e = .returned (.bool (ouB fr t x)) ∧ Below w.heap.size w w' := by
  have B0 := (Below.refl w.heap.size w).alloc (Nat.le_refl _) (.cells #[.int .i64 x.1, .string nm, .int .i64 x.2.1, .int .i64 x.2.2.1, .int .i64 x.2.2.2] 45)
  have HB := Lib.hid B0
  have c1 := (B0.cell (p := ⟨b1, 0, none⟩) (ecell_in h1)).trans h1
  have c2 := (B0.cell (p := ⟨b2, 0, none⟩) (ecell_in h2)).trans h2
  have l1 := ecell_in h1
  have l2 := ecell_in h2
  have N1 : Hid (x.1 < fr → ouB fr t x = true) := Lib.hid (fun q => decide_eq_true (Or.inl q))
  have N2 : Hid (t ≤ x.1 → ouB fr t x = true) := Lib.hid (fun q => decide_eq_true (Or.inr q))
  have N3 : Hid (¬ x.1 < fr → ¬ t ≤ x.1 → ouB fr t x = false) := Lib.hid (fun q k => decide_eq_false (by omega))
  generalize ouB fr t x = R at N1 N2 N3 ⊢
  clear B0 h1 h2
  by_cases g1 : x.1 < fr
  · have N := Lib.hid (N1.out g1)
    clear N1 N2 N3
    go_enter Tryz.func93, Tryz.ntmps93
    go_wp2
    go_ret
    exact ⟨ret_bool N.out.symm, HB.out⟩
  by_cases g2 : t ≤ x.1
  · have N := Lib.hid (N2.out g2)
    clear N1 N2 N3
    go_enter Tryz.func93, Tryz.ntmps93
    go_wp2
    go_ret
    exact ⟨ret_bool N.out.symm, HB.out⟩
  · have N := Lib.hid (N3.out g1 g2)
    clear N1 N2 N3
    go_enter Tryz.func93, Tryz.ntmps93
    go_wp2
    go_ret
    exact ⟨ret_bool N.out.symm, HB.out⟩
end Go.Proofs.YthdohcjingfpoaaGreatDoor
