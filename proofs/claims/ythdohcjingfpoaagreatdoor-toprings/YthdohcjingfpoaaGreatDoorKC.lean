/-
  What is proved here: a desk as it lies in memory, and what is kept by a call that changes one.
  What is proved here: what the desk's closures, Now, Rung, Snoozed, has, find and checkTick answer (contracts over the translation).
  What is proved here: a desk behind a change of one of its cells; what (*desk.Desk).forget and done answer (contracts over the translation).
-/
import Derived.Test.YthdohcjingfpoaaGreatDoorKB
import Derived.Test.YthdohcjingfpoaaGreatDoorRE
import Derived.Test.YthdohcjingfpoaaGreatDoorKA
namespace Go.Proofs.YthdohcjingfpoaaGreatDoor.Dk
open Go.RowKit Qu

/-- A desk, as it is told. -/
structure Ds where
  a : Int
  l : List (Int × Int)
  ev : List Evt
  now : Int
  rung : List Rq
  snz : List Rq
/-- .. and the values that lie in its cells; S: the blocks that its zone and its events rest on. -/
structure Raw where
  sh : Value
  bm : Nat
  le : List Ev
  ru : Value
  sn : Value
  S : Nat → Prop
/-- The blocks that a desk writes into. -/
def Fd (b : Nat) (R : Raw) (g : Nat) : Prop := g = b ∨ g = R.bm ∨ R.ru.ownBlock = some g ∨ R.sn.ownBlock = some g
/-- What holds wherever some blocks are as they are. -/
def Sup (S : Nat → Prop) (w : World) (P : World → Prop) : Prop := ∀ w', w.heap.size ≤ w'.heap.size → (∀ k, S k → w'.heap[k]? = w.heap[k]?) → P w'
theorem Sup.now {S : Nat → Prop} {w : World} {P : World → Prop} (h : Sup S w P) : P w := h w (Nat.le_refl _) (fun _ _ => rfl)
theorem Sup.on {S S' : Nat → Prop} {w w' : World} {P : World → Prop} (h : Sup S w P) (hs : w.heap.size ≤ w'.heap.size) (q : ∀ k, S k → w'.heap[k]? = w.heap[k]?) (i : ∀ k, S k → S' k) : Sup S' w' P :=
  fun w2 h2 q2 => h w2 (Nat.le_trans hs h2) (fun k hk => (q2 k (i k hk)).trans (q k hk))
theorem Sup.imp {S : Nat → Prop} {w : World} {P Q : World → Prop} (h : Sup S w P) (k : ∀ W, P W → Q W) : Sup S w Q := fun w' a b => k w' (h w' a b)
/-- A row that is owned rests on its block. -/
theorem owr_on {w w' : World} {n0 k n : Nat} {t : TypeId} {v : Value} {xs : List Value} (h : w.ownsRow n0 t k v n xs) (q : ∀ g, v.ownBlock = some g → w'.heap[g]? = w.heap[g]?) : w'.ownsRow n0 t k v n xs := by
  refine ⟨h.1, ?_⟩
  rcases h.2 with h2 | ⟨g, cap, cur, hv, hb, hg, hr⟩
  · exact Or.inl h2
  · exact Or.inr ⟨g, cap, cur, hv, hb, (q g (by rw [hv]; rfl)).trans hg, hr⟩
theorem owr_sup {w : World} {n0 k n : Nat} {t : TypeId} {v : Value} {xs : List Value} (h : w.ownsRow n0 t k v n xs) {S : Nat → Prop} (hS : ∀ g, n0 ≤ g → g < w.heap.size → S g) : Sup S w (fun W => W.ownsRow n0 t k v n xs) :=
  fun _ _ q => owr_on h (fun g hg => q g (hS g (h.lt g hg).1 (h.lt g hg).2))
theorem owr_zero {w : World} {n0 k n : Nat} {t : TypeId} {v : Value} {xs : List Value} (h : w.ownsRow n0 t k v n xs) : w.ownsRow 0 t k v n xs := by
  refine ⟨h.1, ?_⟩
  rcases h.2 with h2 | ⟨g, cap, cur, hv, hb, hg, hr⟩
  · exact Or.inl h2
  · exact Or.inr ⟨g, cap, cur, hv, Nat.zero_le _, hg, hr⟩
def dcells (D : Ds) (R : Raw) : List Value := [.int .i64 D.a, R.sh, .map (some R.bm), .int .i64 D.now, R.ru, R.sn]
/-- A desk in memory. -/
structure Dm (w : World) (b : Nat) (D : Ds) (R : Raw) : Prop where
  box : w.heap[b]? = some (.cells (dcells D R).toArray 82 (0, 0))
  map : w.ownsMap Tryz.prog 9 tokR R.bm R.le.length (evD R.le)
  le : R.le.map Prod.fst = D.ev
  rung : Ow w 0 R.ru D.rung
  snz : Ow w 0 R.sn D.snz
  apart : ∀ g, R.ru.ownBlock = some g → R.sn.ownBlock ≠ some g
  sin : ∀ k, R.S k → k < w.heap.size ∧ ¬ Fd b R k
  zone : Sup R.S w (fun W => Nths W R.sh D.l)
  evs : ∀ p ∈ R.le, Sup R.S w (fun W => EvB W p.1 p.2)
variable {w w' : World} {b : Nat} {D : Ds} {R : Raw}
theorem Dm.lt (h : Dm w b D R) : b < w.heap.size := by
  rcases Nat.lt_or_ge b w.heap.size with q | q
  · exact q
  · have := h.box
    rw [Array.getElem?_eq_none q] at this
    cases this
theorem Dm.flt (h : Dm w b D R) {g : Nat} (hg : Fd b R g) : g < w.heap.size := by
  rcases hg with rfl | rfl | hg | hg
  · exact h.lt
  · exact h.map.lt
  · exact (h.rung.lt g hg).2
  · exact (h.snz.lt g hg).2
theorem Dm.cell (h : Dm w b D R) {j : Nat} {u : Value} (hu : (dcells D R)[j]? = some u) : w.cell? ⟨b, j, none⟩ = some u := by
  have := h.box
  simp [World.cell?, this, hu]
theorem Dm.frozen (h : Dm w b D R) (j : Nat) : w.frozen? ⟨b, j, none⟩ = false := by
  have := h.box
  simp [World.frozen?, this]
theorem Dm.cells (h : Dm w b D R) : w.cell? ⟨b, 0, none⟩ = some (.int .i64 D.a) ∧ w.cell? ⟨b, 1, none⟩ = some R.sh ∧ w.cell? ⟨b, 2, none⟩ = some (.map (some R.bm)) ∧ w.cell? ⟨b, 3, none⟩ = some (.int .i64 D.now) ∧ w.cell? ⟨b, 4, none⟩ = some R.ru ∧ w.cell? ⟨b, 5, none⟩ = some R.sn :=
  ⟨h.cell rfl, h.cell rfl, h.cell rfl, h.cell rfl, h.cell rfl, h.cell rfl⟩
/-- The row of rings is another block than the desk and than the map. -/
theorem Ow.ring {w : World} {n0 : Nat} {v : Value} {M : List Rq} (h : Ow w n0 v M) {g : Nat} (hg : v.ownBlock = some g) : ∃ L : Array Value, w.heap[g]? = some (.cells L 45 (0, 0)) := by
  rcases h.2 with ⟨rfl, _⟩ | ⟨g', cap, cur, rfl, _, hL, _⟩
  · cases hg
  · have : g' = g := by simpa [Value.ownBlock] using hg
    subst this
    exact ⟨cur, hL⟩
theorem Dm.ne_map (h : Dm w b D R) : R.bm ≠ b := fun e => by
  obtain ⟨es, c, hb, _⟩ := h.map
  have := h.box
  rw [← e, hb] at this
  cases this
theorem Dm.ne_row (h : Dm w b D R) {v : Value} {M : List Rq} (ho : Ow w 0 v M) {g : Nat} (hg : v.ownBlock = some g) : g ≠ b ∧ g ≠ R.bm := by
  obtain ⟨L, hL⟩ := Ow.ring ho hg
  refine ⟨fun e => ?_, fun e => ?_⟩
  · rw [e, h.box] at hL
    injection hL with hL
    injection hL with _ hL
    revert hL
    decide
  · obtain ⟨es, c, hb, _⟩ := h.map
    rw [e, hb] at hL
    cases hL
/-- Where all its blocks are as they were. -/
theorem Dm.on (h : Dm w b D R) (hs : w.heap.size ≤ w'.heap.size) (q : ∀ g, Fd b R g ∨ R.S g → w'.heap[g]? = w.heap[g]?) : Dm w' b D R where
  box := (q b (Or.inl (Or.inl rfl))).trans h.box
  map := by
    obtain ⟨es, c, hb, r⟩ := h.map
    exact ⟨es, c, (q R.bm (Or.inl (Or.inr (Or.inl rfl)))).trans hb, r⟩
  le := h.le
  rung := own_on h.rung (fun g hg => q g (Or.inl (Or.inr (Or.inr (Or.inl hg)))))
  snz := own_on h.snz (fun g hg => q g (Or.inl (Or.inr (Or.inr (Or.inr hg)))))
  apart := h.apart
  sin := fun k hk => ⟨Nat.lt_of_lt_of_le (h.sin k hk).1 hs, (h.sin k hk).2⟩
  zone := h.zone.on hs (fun k hk => q k (Or.inr hk)) (fun _ h => h)
  evs := fun p hp => (h.evs p hp).on hs (fun k hk => q k (Or.inr hk)) (fun _ h => h)
theorem Dm.onB (h : Dm w b D R) (q : Below w.heap.size w w') : Dm w' b D R := h.on q.size (fun g hg => q.block g (by
  rcases hg with hg | hg
  · exact h.flt hg
  · exact (h.sin g hg).1))
/-- What a call keeps: all but the desk's own blocks. -/
structure Kd (b : Nat) (R R' : Raw) (w w' : World) : Prop where
  os : w'.os = w.os
  tape : w'.tape = w.tape
  output : w'.output = w.output
  size : w.heap.size ≤ w'.heap.size
  block : ∀ k, k < w.heap.size → ¬ Fd b R k → w'.heap[k]? = w.heap[k]?
  own : ∀ k, Fd b R' k ∨ R'.S k → (Fd b R k ∨ R.S k) ∨ w.heap.size ≤ k
  fd : ∀ k, Fd b R' k → Fd b R k ∨ w.heap.size ≤ k
theorem Kd.refl (b : Nat) (R : Raw) (w : World) : Kd b R R w w := ⟨rfl, rfl, rfl, Nat.le_refl _, fun _ _ _ => rfl, fun _ h => Or.inl h, fun _ h => Or.inl h⟩
theorem Kd.trans {R R1 R2 : Raw} {a c d : World} (h : Kd b R R1 a c) (k : Kd b R1 R2 c d) : Kd b R R2 a d :=
  ⟨k.os.trans h.os, k.tape.trans h.tape, k.output.trans h.output, Nat.le_trans h.size k.size, fun i hi hf => (k.block i (Nat.lt_of_lt_of_le hi h.size) (fun e => by
    rcases h.fd i e with q | q
    · exact hf q
    · omega)).trans (h.block i hi hf), fun i hi => by
    rcases k.own i hi with q | q
    · exact h.own i q
    · exact Or.inr (Nat.le_trans h.size q), fun i hi => by
    rcases k.fd i hi with q | q
    · exact h.fd i q
    · exact Or.inr (Nat.le_trans h.size q)⟩
theorem Kd.of_below (b : Nat) (R : Raw) {w w' : World} (h : Below w.heap.size w w') : Kd b R R w w' := ⟨h.os, h.tape, h.output, h.size, fun k hk _ => h.block k hk, fun _ h => Or.inl h, fun _ h => Or.inl h⟩
theorem Kd.below {B : Nat} {R' : Raw} (h : Kd b R R' w w') (hB : B ≤ w.heap.size) (hF : ∀ k, Fd b R k → B ≤ k) : Below B w w' :=
  ⟨h.os, h.tape, h.output, h.size, fun k hk => h.block k (by omega) (fun e => by have := hF k e; omega)⟩
/-- Another desk beside it. -/
def Apd (b : Nat) (R : Raw) (c : Nat) (T : Raw) : Prop := ∀ k, Fd b R k → ¬ (Fd c T k ∨ T.S k)
theorem Dm.onK {c : Nat} {E : Ds} {T R' : Raw} (h : Dm w c E T) (q : Kd b R R' w w') (ha : Apd b R c T) : Dm w' c E T := h.on q.size (fun g hg => q.block g (by
  rcases hg with hg | hg
  · exact h.flt hg
  · exact (h.sin g hg).1) (fun e => ha g e hg))
theorem Apd.onK {c : Nat} {E : Ds} {T R' : Raw} (ha : Apd b R c T) (h : Dm w c E T) (q : Kd b R R' w w') : Apd b R' c T := fun k hk e => by
  rcases q.fd k hk with z | z
  · exact ha k z e
  · have : k < w.heap.size := by
      rcases e with e | e
      · exact h.flt e
      · exact (h.sin k e).1
    omega
theorem Apd.onK2 {c : Nat} {T T' : Raw} (ha : Apd b R c T) (h : Dm w b D R) (q : Kd c T T' w w') : Apd b R c T' := fun k hk e => by
  rcases q.own k e with z | z
  · exact ha k hk z
  · have := h.flt hk
    omega
/-- A cell of the desk is written. -/
theorem Dm.set {D' : Ds} {R' : Raw} (h : Dm w b D R) {j : Nat} {u : Value} (hc : (dcells D R).set j u = dcells D' R') : (w.setCell ⟨b, j, none⟩ u).heap[b]? = some (.cells (dcells D' R').toArray 82 (0, 0)) := by
  rw [setCell_eq_setRow w b j _ 82 (0, 0) u h.box, setRow_heap w b _ _ _ _ h.box]
  rw [← hc]
  simp
theorem set_other (w : World) (b j : Nat) (u : Value) {g : Nat} (h : g ≠ b) : (w.setCell ⟨b, j, none⟩ u).heap[g]? = w.heap[g]? := Below.heap_setCell w ⟨b, j, none⟩ u g h
end Go.Proofs.YthdohcjingfpoaaGreatDoor.Dk
namespace Go.Proofs.YthdohcjingfpoaaGreatDoor.Dk
open Go.RowKit Qu

theorem isIts_any (c : Rq) (nm : ByteArray) (g : Nat) (w : World) (hc : w.cell? ⟨g, 0, none⟩ = some (.string nm)) :
    Calls Tryz.prog 105 #[agQ c, .pointer (some ⟨g, 0, none⟩)] w fun e w' => e = .returned (.bool (decide (c.2.1 = nm))) ∧ Below w.heap.size w w' := by
  have B0 := (Below.refl w.heap.size w).alloc (Nat.le_refl _) (.cells #[.int .i64 c.1, .string c.2.1, .int .i64 c.2.2.1, .int .i64 c.2.2.2.1, .int .i64 c.2.2.2.2] 45)
  have HB := Lib.hid B0
  have l1 := cell_in hc
  have c1 := (B0.cell (p := ⟨g, 0, none⟩) l1).trans hc
  clear hc B0
  by_cases q : c.2.1 = nm
  · rw [decide_eq_true q]
    subst q
    go_enter Tryz.func105, Tryz.ntmps105
    go_wp2
    go_ret
    exact ⟨ret_bool (by simp), HB.out⟩
  · rw [decide_eq_false q]
    go_enter Tryz.func105, Tryz.ntmps105
    go_wp2
    go_ret
    exact ⟨ret_bool (by simpa using fun e => q (toList_inj e)), HB.out⟩
theorem isDue_any (c : Rq) (t : Int) (g : Nat) (w : World) (hc : w.cell? ⟨g, 0, none⟩ = some (.int .i64 t)) :
    Calls Tryz.prog 69 #[agQ c, .pointer (some ⟨g, 0, none⟩)] w fun e w' => e = .returned (.bool (decide (c.1 ≤ t))) ∧ Below w.heap.size w w' := by
  have B0 := (Below.refl w.heap.size w).alloc (Nat.le_refl _) (.cells #[.int .i64 c.1, .string c.2.1, .int .i64 c.2.2.1, .int .i64 c.2.2.2.1, .int .i64 c.2.2.2.2] 45)
  have HB := Lib.hid B0
  have l1 := cell_in hc
  have c1 := (B0.cell (p := ⟨g, 0, none⟩) l1).trans hc
  clear hc B0
  go_enter Tryz.func69, Tryz.ntmps69
  go_wp2
  go_ret
  exact ⟨ret_bool (by simp), HB.out⟩
theorem isLater_any (c : Rq) (t : Int) (g : Nat) (w : World) (hc : w.cell? ⟨g, 0, none⟩ = some (.int .i64 t)) :
    Calls Tryz.prog 110 #[agQ c, .pointer (some ⟨g, 0, none⟩)] w fun e w' => e = .returned (.bool (decide (t < c.1))) ∧ Below w.heap.size w w' := by
  have B0 := (Below.refl w.heap.size w).alloc (Nat.le_refl _) (.cells #[.int .i64 c.1, .string c.2.1, .int .i64 c.2.2.1, .int .i64 c.2.2.2.1, .int .i64 c.2.2.2.2] 45)
  have HB := Lib.hid B0
  have l1 := cell_in hc
  have c1 := (B0.cell (p := ⟨g, 0, none⟩) l1).trans hc
  clear hc B0
  go_enter Tryz.func110, Tryz.ntmps110
  go_wp2
  go_ret
  exact ⟨ret_bool (by simp), HB.out⟩
variable {w : World} {b : Nat} {D : Ds} {R : Raw}
theorem dnow_any (h : Dm w b D R) : Calls Tryz.prog 50 #[.pointer (some ⟨b, 0, none⟩)] w fun e w' => e = .returned (.int .i64 D.now) ∧ w' = w := by
  obtain ⟨_, _, _, c3, _⟩ := h.cells
  have l := h.lt
  clear h
  go_enter Tryz.func50, Tryz.ntmps50
  go_wp2
  go_ret
  exact ⟨rfl, rfl⟩
theorem drung_any (h : Dm w b D R) (hl : D.rung.length ≤ 1000000) : Calls Tryz.prog 9 #[.pointer (some ⟨b, 0, none⟩)] w fun e w' => ∃ u, e = .returned u ∧ Ow w' w.heap.size u D.rung ∧ Below w.heap.size w w' := by
  obtain ⟨_, _, _, _, c4, _⟩ := h.cells
  have l := h.lt
  have K := Lib.hid (cln_rng R.ru D.rung w (rd_row h.rung.rd) hl)
  obtain ⟨a, cp, e⟩ : ∃ a cp, R.ru = .slice a D.rung.length cp := by
    obtain ⟨a, cp, e, _⟩ := h.rung.rd
    exact ⟨a, cp, e⟩
  rw [e] at c4 K
  clear h
  go_enter Tryz.func9, Tryz.ntmps9
  go_wp2_with fail
  refine K.out.mono ?_
  rintro e w1 ⟨u, rfl, h1, h2⟩
  have H1 := Lib.hid h1
  have H2 := Lib.hid h2
  clear h1 h2 K
  go_wp2
  go_ret
  exact ⟨u, rfl, H1.out, H2.out⟩
theorem dsnz_any (h : Dm w b D R) (hl : D.snz.length ≤ 1000000) : Calls Tryz.prog 15 #[.pointer (some ⟨b, 0, none⟩)] w fun e w' => ∃ u, e = .returned u ∧ Ow w' w.heap.size u D.snz ∧ Below w.heap.size w w' := by
  obtain ⟨_, _, _, _, _, c4⟩ := h.cells
  have l := h.lt
  have K := Lib.hid (cln_rng R.sn D.snz w (rd_row h.snz.rd) hl)
  obtain ⟨a, cp, e⟩ : ∃ a cp, R.sn = .slice a D.snz.length cp := by
    obtain ⟨a, cp, e, _⟩ := h.snz.rd
    exact ⟨a, cp, e⟩
  rw [e] at c4 K
  clear h
  go_enter Tryz.func15, Tryz.ntmps15
  go_wp2_with fail
  refine K.out.mono ?_
  rintro e w1 ⟨u, rfl, h1, h2⟩
  have H1 := Lib.hid h1
  have H2 := Lib.hid h2
  clear h1 h2 K
  go_wp2
  go_ret
  exact ⟨u, rfl, H1.out, H2.out⟩
theorem dnames_any (h : Dm w b D R) (hs : Srt D.ev) (hl : D.ev.length ≤ 1000000) : Calls Tryz.prog 12 #[.pointer (some ⟨b, 0, none⟩)] w fun e w' => ∃ v, e = .returned v ∧ w'.ownsRow w.heap.size 9 1 v D.ev.length (nms D.ev) ∧ Below w.heap.size w w' := by
  have hl2 : R.le.length = D.ev.length := by rw [← h.le, List.length_map]
  have := names_any b R.bm R.le.length R.le w h.cells.2.2.1 h.map (by rw [h.le]; exact hs) (by omega)
  rw [h.le, hl2] at this
  exact this
theorem dfind_any (M : List Rq) (r : Rq) (v : Value) (w : World) (ho : Rd w v M) (hM : Rs M) (hl : M.length ≤ 1000000) :
    Calls Tryz.prog 71 #[v, agQ r] w (FndA M r w) := by
  obtain ⟨W0, hW0⟩ : ∃ W0, W0 = w.alloc (.cells #[.int .i64 r.1, .string r.2.1, .int .i64 r.2.2.1, .int .i64 r.2.2.2.1, .int .i64 r.2.2.2.2] 45) := ⟨_, rfl⟩
  have b0 : Below w.heap.size w W0 := by rw [hW0]; exact below_alloc _ _
  have x0 : QBx W0 w.heap.size r := by rw [hW0]; exact QBx.new w r _
  have K := Lib.hid (bsearch_any M r v W0 (ho.on b0) hM hl)
  have FI : Hid (∀ p : Nat, Fnd M r p → ∀ W, Below W0.heap.size W0 W → FndA M r w (.returned (.tuple #[.int .i64 p, .bool (hasQ M r)])) W) := Lib.hid (fun p h1 W h2 => ⟨p, h1, rfl, b0.trans (h2.mono b0.size)⟩)
  have K2 : Hid (Calls Tryz.prog 115 #[v, agQ r, .func (.func 13) #[] #[]] W0 fun e w' => ∃ p : Nat, Hid (Fnd M r p) ∧ e = .returned (.tuple #[.int .i64 p, .bool (hasQ M r)]) ∧ Below W0.heap.size W0 w') := Lib.hid (K.out.mono (fun e w' ⟨p, h1, h2, h3⟩ => ⟨p, Lib.hid h1, h2, h3⟩))
  generalize FndA M r w = PP at FI ⊢
  generalize hasQ M r = B at FI K2
  have HW := Lib.hid hW0
  obtain ⟨a, cap, rfl, _⟩ := ho
  obtain ⟨x1, x2, x3, x4, x5⟩ := x0
  have xl := cell_in x1
  clear b0 hW0 K
  go_enter Tryz.func71, Tryz.ntmps71
  go_upto_region 1 with fail
  rw [← HW.out]
  clear HW
  go_wp2_with fail
  refine K2.out.mono ?_
  rintro e w1 ⟨p, hp, rfl, hb⟩
  have F1 := Lib.hid (FI.out p hp.out w1 hb)
  clear hp hb K2 FI
  go_wp2
  exact F1.out
end Go.Proofs.YthdohcjingfpoaaGreatDoor.Dk
namespace Go.Proofs.YthdohcjingfpoaaGreatDoor.Dk
open Go.RowKit Qu

variable {w w' : World} {b : Nat} {D : Ds} {R : Raw}
/-- A desk behind a change of its own blocks alone. -/
theorem Dm.next {D' : Ds} {R' : Raw} (h : Dm w b D R) (hs : w.heap.size ≤ w'.heap.size) (hk : ∀ k, k < w.heap.size → ¬ Fd b R k → w'.heap[k]? = w.heap[k]?)
    (box : w'.heap[b]? = some (.cells (dcells D' R').toArray 82 (0, 0))) (map : w'.ownsMap Tryz.prog 9 tokR R'.bm R'.le.length (evD R'.le)) (le : R'.le.map Prod.fst = D'.ev) (hle : ∀ p ∈ R'.le, p ∈ R.le)
    (hS : R'.S = R.S) (hsh : R'.sh = R.sh) (hl : D'.l = D.l) (rung : Ow w' 0 R'.ru D'.rung) (snz : Ow w' 0 R'.sn D'.snz) (apart : ∀ g, R'.ru.ownBlock = some g → R'.sn.ownBlock ≠ some g) (hf : ∀ g, Fd b R' g → Fd b R g ∨ w.heap.size ≤ g) : Dm w' b D' R' := by
  have q : ∀ k, R.S k → w'.heap[k]? = w.heap[k]? := fun k hk2 => hk k (h.sin k hk2).1 (h.sin k hk2).2
  refine ⟨box, map, le, rung, snz, apart, fun k hk2 => ?_, ?_, fun p hp => ?_⟩
  · rw [hS] at hk2
    refine ⟨Nat.lt_of_lt_of_le (h.sin k hk2).1 hs, fun e => ?_⟩
    rcases hf k e with z | z
    · exact (h.sin k hk2).2 z
    · have := (h.sin k hk2).1
      omega
  · rw [hS, hsh, hl]
    exact h.zone.on hs q (fun _ h => h)
  · rw [hS]
    exact (h.evs p (hle p hp)).on hs q (fun _ h => h)
theorem Kd.next {R' : Raw} (h1 : w'.os = w.os) (h2 : w'.tape = w.tape) (h3 : w'.output = w.output) (hs : w.heap.size ≤ w'.heap.size) (hk : ∀ k, k < w.heap.size → ¬ Fd b R k → w'.heap[k]? = w.heap[k]?) (hS : R'.S = R.S) (hf : ∀ g, Fd b R' g → Fd b R g ∨ w.heap.size ≤ g) : Kd b R R' w w' :=
  ⟨h1, h2, h3, hs, hk, fun k hk2 => by
    rcases hk2 with z | z
    · rcases hf k z with y | y
      · exact Or.inl (Or.inl y)
      · exact Or.inr y
    · rw [hS] at z
      exact Or.inl (Or.inr z), hf⟩
/-- What a cell of a desk's own is, where a row of its own was changed. -/
theorem Dm.grown (h : Dm w b D R) {v : Value} (hv : v = R.ru ∨ v = R.sn) (hg : w.grownBy w' v.ownBlock) : w'.heap[b]? = w.heap[b]? ∧ w'.heap[R.bm]? = w.heap[R.bm]? ∧ ∀ k, k < w.heap.size → ¬ Fd b R k → w'.heap[k]? = w.heap[k]? := by
  refine ⟨hg.block b h.lt (fun e => ?_), hg.block R.bm h.map.lt (fun e => ?_), fun k hk hf => hg.block k hk (fun e => ?_)⟩
  · rcases hv with rfl | rfl
    · exact (h.ne_row h.rung e.symm).1 rfl
    · exact (h.ne_row h.snz e.symm).1 rfl
  · rcases hv with rfl | rfl
    · exact (h.ne_row h.rung e.symm).2 rfl
    · exact (h.ne_row h.snz e.symm).2 rfl
  · rcases hv with rfl | rfl
    · exact hf (Or.inr (Or.inr (Or.inl e.symm)))
    · exact hf (Or.inr (Or.inr (Or.inr e.symm)))
theorem own_map {w1 w2 : World} {k : TypeId} {Rd : Value → Option (DataW Value × List MemPlace)} {m n : Nat} {E : DataW Value} (h : w1.ownsMap Tryz.prog k Rd m n E) (q : w2.heap[m]? = w1.heap[m]?) : w2.ownsMap Tryz.prog k Rd m n E := by
  obtain ⟨es, c, hb, r⟩ := h
  exact ⟨es, c, q.trans hb, r⟩
/-- What has rung is another row. -/
theorem Dm.putR (h : Dm w b D R) {u : Value} {L : List Rq} (hg : w.grownBy w' R.ru.ownBlock) (ho : Ow w' 0 u L) (hu : ∀ g, u.ownBlock = some g → R.ru.ownBlock = some g ∨ w.heap.size ≤ g) :
    w'.cell? ⟨b, 4, none⟩ = some R.ru ∧ w'.frozen? ⟨b, 4, none⟩ = false ∧ Dm (w'.setCell ⟨b, 4, none⟩ u) b { D with rung := L } { R with ru := u } ∧ Kd b R { R with ru := u } w (w'.setCell ⟨b, 4, none⟩ u) := by
  obtain ⟨g1, g2, g3⟩ := h.grown (Or.inl rfl) hg
  have hb' : w'.heap[b]? = some (.cells (dcells D R).toArray 82 (0, 0)) := g1.trans h.box
  have hc : w'.cell? ⟨b, 4, none⟩ = some R.ru := by simp [World.cell?, hb', dcells]
  have hf : w'.frozen? ⟨b, 4, none⟩ = false := by simp [World.frozen?, hb']
  have hfd : ∀ g, Fd b { R with ru := u } g → Fd b R g ∨ w.heap.size ≤ g := fun g hg => by
    rcases hg with z | z | z | z
    · exact Or.inl (Or.inl z)
    · exact Or.inl (Or.inr (Or.inl z))
    · rcases hu g z with y | y
      · exact Or.inl (Or.inr (Or.inr (Or.inl y)))
      · exact Or.inr y
    · exact Or.inl (Or.inr (Or.inr (Or.inr z)))
  have hk : ∀ k, k < w.heap.size → ¬ Fd b R k → (w'.setCell ⟨b, 4, none⟩ u).heap[k]? = w.heap[k]? := fun k hk hf => (set_other w' b 4 u (fun e => hf (Or.inl e))).trans (g3 k hk hf)
  have hs : w.heap.size ≤ (w'.setCell ⟨b, 4, none⟩ u).heap.size := by simpa using hg.size
  have ub : ∀ g, u.ownBlock = some g → g ≠ b := fun g hg2 => by
    rcases hu g hg2 with z | z
    · exact (h.ne_row h.rung z).1
    · have := h.lt
      omega
  refine ⟨hc, hf, ?_, Kd.next hg.os hg.tape hg.output hs hk rfl hfd⟩
  refine h.next hs hk ?_ ?_ h.le (fun _ h => h) rfl rfl rfl ?_ ?_ ?_ hfd
  · rw [setCell_eq_setRow w' b 4 _ 82 (0, 0) u hb', setRow_heap w' b _ _ _ _ hb']
    simp [dcells]
  · exact own_map h.map ((set_other w' b 4 u h.ne_map).trans g2)
  · exact own_on ho (fun g hg2 => set_other w' b 4 u (ub g hg2))
  · refine own_on h.snz (fun g hg2 => ?_)
    have n1 := (h.ne_row h.snz hg2).1
    exact (set_other w' b 4 u n1).trans (hg.block g (h.snz.lt g hg2).2 (fun e => h.apart g e.symm hg2))
  · intro g hg2 hg3
    rcases hu g hg2 with z | z
    · exact h.apart g z hg3
    · have := (h.snz.lt g hg3).2
      omega
/-- What is snoozed is another row. -/
theorem Dm.putS (h : Dm w b D R) {u : Value} {L : List Rq} (hg : w.grownBy w' R.sn.ownBlock) (ho : Ow w' 0 u L) (hu : ∀ g, u.ownBlock = some g → R.sn.ownBlock = some g ∨ w.heap.size ≤ g) :
    w'.cell? ⟨b, 5, none⟩ = some R.sn ∧ w'.frozen? ⟨b, 5, none⟩ = false ∧ Dm (w'.setCell ⟨b, 5, none⟩ u) b { D with snz := L } { R with sn := u } ∧ Kd b R { R with sn := u } w (w'.setCell ⟨b, 5, none⟩ u) := by
  obtain ⟨g1, g2, g3⟩ := h.grown (Or.inr rfl) hg
  have hb' : w'.heap[b]? = some (.cells (dcells D R).toArray 82 (0, 0)) := g1.trans h.box
  have hc : w'.cell? ⟨b, 5, none⟩ = some R.sn := by simp [World.cell?, hb', dcells]
  have hf : w'.frozen? ⟨b, 5, none⟩ = false := by simp [World.frozen?, hb']
  have hfd : ∀ g, Fd b { R with sn := u } g → Fd b R g ∨ w.heap.size ≤ g := fun g hg => by
    rcases hg with z | z | z | z
    · exact Or.inl (Or.inl z)
    · exact Or.inl (Or.inr (Or.inl z))
    · exact Or.inl (Or.inr (Or.inr (Or.inl z)))
    · rcases hu g z with y | y
      · exact Or.inl (Or.inr (Or.inr (Or.inr y)))
      · exact Or.inr y
  have hk : ∀ k, k < w.heap.size → ¬ Fd b R k → (w'.setCell ⟨b, 5, none⟩ u).heap[k]? = w.heap[k]? := fun k hk hf => (set_other w' b 5 u (fun e => hf (Or.inl e))).trans (g3 k hk hf)
  have hs : w.heap.size ≤ (w'.setCell ⟨b, 5, none⟩ u).heap.size := by simpa using hg.size
  have ub : ∀ g, u.ownBlock = some g → g ≠ b := fun g hg2 => by
    rcases hu g hg2 with z | z
    · exact (h.ne_row h.snz z).1
    · have := h.lt
      omega
  refine ⟨hc, hf, ?_, Kd.next hg.os hg.tape hg.output hs hk rfl hfd⟩
  refine h.next hs hk ?_ ?_ h.le (fun _ h => h) rfl rfl rfl ?_ ?_ ?_ hfd
  · rw [setCell_eq_setRow w' b 5 _ 82 (0, 0) u hb', setRow_heap w' b _ _ _ _ hb']
    simp [dcells]
  · exact own_map h.map ((set_other w' b 5 u h.ne_map).trans g2)
  · refine own_on h.rung (fun g hg2 => ?_)
    have n1 := (h.ne_row h.rung hg2).1
    exact (set_other w' b 5 u n1).trans (hg.block g (h.rung.lt g hg2).2 (fun e => h.apart g hg2 e.symm))
  · exact own_on ho (fun g hg2 => set_other w' b 5 u (ub g hg2))
  · intro g hg2 hg3
    rcases hu g hg3 with z | z
    · exact h.apart g hg2 z
    · have := (h.rung.lt g hg2).2
      omega
/-- The time is another one. -/
theorem Dm.putN (h : Dm w b D R) (n : Int) : Dm (w.setCell ⟨b, 3, none⟩ (.int .i64 n)) b { D with now := n } R ∧ Kd b R R w (w.setCell ⟨b, 3, none⟩ (.int .i64 n)) := by
  have hk : ∀ k, k < w.heap.size → ¬ Fd b R k → (w.setCell ⟨b, 3, none⟩ (.int .i64 n)).heap[k]? = w.heap[k]? := fun k hk hf => set_other w b 3 _ (fun e => hf (Or.inl e))
  have hs : w.heap.size ≤ (w.setCell ⟨b, 3, none⟩ (.int .i64 n)).heap.size := by simp
  refine ⟨h.next hs hk ?_ (own_map h.map (set_other w b 3 _ h.ne_map)) h.le (fun _ h => h) rfl rfl rfl (own_on h.rung (fun g hg => set_other w b 3 _ (h.ne_row h.rung hg).1)) (own_on h.snz (fun g hg => set_other w b 3 _ (h.ne_row h.snz hg).1)) h.apart (fun _ h => Or.inl h),
    Kd.next rfl rfl rfl hs hk rfl (fun _ h => Or.inl h)⟩
  rw [setCell_eq_setRow w b 3 _ 82 (0, 0) _ h.box, setRow_heap w b _ _ _ _ h.box]
  simp [dcells]
theorem grown_alloc {w : World} {r : Option Nat} {w' : World} (o : Obj) (h : (w.alloc o).grownBy w' r) : w.grownBy w' r :=
  grown_tr (grown_below (below_alloc w o) r) h
set_option maxHeartbeats 2000000 in
/-- All rings of a name are gone. -/
theorem forget_any (nm : ByteArray) (h : Dm w b D R) (h1 : D.rung.length ≤ 1000000) (h2 : D.snz.length ≤ 1000000) :
    Calls Tryz.prog 64 #[.pointer (some ⟨b, 0, none⟩), .string nm] w fun e w' => e = .returned (.tuple #[]) ∧ ∃ R', Dm w' b { D with rung := D.rung.filter (fun x => !decide (x.2.1 = nm)), snz := D.snz.filter (fun x => !decide (x.2.1 = nm)) } R' ∧ Kd b R R' w w' ∧ R'.le = R.le ∧ R'.bm = R.bm ∧ R'.S = R.S := by
  obtain ⟨W0, hW0⟩ : ∃ W0, W0 = w.alloc (.cells #[.string nm] 9) := ⟨_, rfl⟩
  have b0 : Below w.heap.size w W0 := by rw [hW0]; exact below_alloc _ _
  have c0 : W0.cell? ⟨w.heap.size, 0, none⟩ = some (.string nm) := by rw [hW0]; simp
  have H0 : Hid (Dm W0 b D R) := Lib.hid (h.onB b0)
  have K0 : Hid (Kd b R R w W0) := Lib.hid (Kd.of_below b R b0)
  have CL : Hid (∀ W : World, (∀ g, g < W0.heap.size → ¬ Fd b R g → W.heap[g]? = W0.heap[g]?) → W.cell? ⟨w.heap.size, 0, none⟩ = some (.string nm)) := Lib.hid (fun W q => by
    have : W.heap[w.heap.size]? = W0.heap[w.heap.size]? := q _ (cell_in c0) (fun e => by
      have := h.flt e
      omega)
    simpa [World.cell?, this] using c0)
  have HW := Lib.hid hW0
  have eg : ∀ args w, (callFunc 105 args).run Tryz.prog w = .ok (.enter 105 args) w := enters_of Tryz.func105 (by kernel_rfl) rfl
  have D1 : Hid (Calls Tryz.prog 70 #[R.ru, .func (.func 105) #[] #[.pointer (some ⟨w.heap.size, 0, none⟩)]] W0 fun e w' => ∃ u x n c, u = .slice x n c ∧ e = .returned u ∧ b < w'.heap.size ∧ w'.cell? ⟨b, 4, none⟩ = some R.ru ∧ w'.frozen? ⟨b, 4, none⟩ = false ∧ ∃ R1, Hid (Dm (w'.setCell ⟨b, 4, none⟩ u) b { D with rung := D.rung.filter (fun x => !decide (x.2.1 = nm)) } R1) ∧ Hid (Kd b R R1 W0 (w'.setCell ⟨b, 4, none⟩ u)) ∧ R1 = { R with ru := u } ∧ u.ownBlock = R.ru.ownBlock) := Lib.hid
    ((delQ _ _ (fun x => decide (x.2.1 = nm)) D.rung 0 R.ru W0 eg (fun c W q => isIts_any c nm _ W (CL.out W (H0.out.grown (Or.inl rfl) q).2.2)) H0.out.rung h1).mono (fun e w' ⟨u, he, ho, hu, hg⟩ => by
      obtain ⟨q1, q2, q3, q4⟩ := H0.out.putR hg ho (fun g hg2 => Or.inl (by rw [← hu]; exact hg2))
      obtain ⟨x, c, hs, _⟩ := ho.rd
      exact ⟨u, x, _, c, hs, he, cell_in q1, q1, q2, _, Lib.hid q3, Lib.hid q4, rfl, hu⟩))
  have D2 : Hid (∀ (W1 : World) (R1 : Raw) (u : Value), R1 = { R with ru := u } → u.ownBlock = R.ru.ownBlock → Dm W1 b { D with rung := D.rung.filter (fun x => !decide (x.2.1 = nm)) } R1 → Kd b R R1 W0 W1 → Calls Tryz.prog 70 #[R.sn, .func (.func 105) #[] #[.pointer (some ⟨w.heap.size, 0, none⟩)]] W1 fun e w' => ∃ u x n c, u = .slice x n c ∧ e = .returned u ∧ b < w'.heap.size ∧ w'.cell? ⟨b, 5, none⟩ = some R.sn ∧ w'.frozen? ⟨b, 5, none⟩ = false ∧ Hid (∃ R', Dm (w'.setCell ⟨b, 5, none⟩ u) b { D with rung := D.rung.filter (fun x => !decide (x.2.1 = nm)), snz := D.snz.filter (fun x => !decide (x.2.1 = nm)) } R' ∧ Kd b R R' w (w'.setCell ⟨b, 5, none⟩ u) ∧ R'.le = R.le ∧ R'.bm = R.bm ∧ R'.S = R.S)) := Lib.hid (fun W1 R1 u hR hu hD hK => by
    subst hR
    refine (delQ _ _ (fun x => decide (x.2.1 = nm)) D.snz 0 R.sn W1 eg (fun c W q => isIts_any c nm _ W (CL.out W (fun g hg hn => ?_))) hD.snz h2).mono (fun e w' ⟨u2, he, ho, hu2, hg⟩ => ?_)
    · have hn' : ¬ Fd b { R with ru := u } g := fun e => hn (by
        rcases e with e | e | e | e
        · exact Or.inl e
        · exact Or.inr (Or.inl e)
        · exact Or.inr (Or.inr (Or.inl (by rw [← hu]; exact e)))
        · exact Or.inr (Or.inr (Or.inr e)))
      exact ((hD.grown (v := R.sn) (Or.inr rfl) q).2.2 g (Nat.lt_of_lt_of_le hg hK.size) hn').trans (hK.block g hg hn)
    · obtain ⟨q1, q2, q3, q4⟩ := hD.putS hg ho (fun g hg2 => Or.inl (by rw [← hu2]; exact hg2))
      obtain ⟨x, c, hs, _⟩ := ho.rd
      exact ⟨u2, x, _, c, hs, he, cell_in q1, q1, q2, Lib.hid ⟨_, q3, K0.out.trans (hK.trans q4), rfl, rfl, rfl⟩⟩)
  obtain ⟨_, _, _, _, c4, _⟩ := H0.out.cells
  have bl := cell_in c4
  have bl2 := cell_in c0
  clear h b0 hW0 K0 CL h1 h2
  go_enter Tryz.func64, Tryz.ntmps64
  go_upto_region 1 with fail
  rw [← HW.out]
  clear HW
  go_wp2_with fail
  refine D1.out.mono ?_
  rintro e w1 ⟨u, x, n, c, rfl, rfl, l1, k1, f1, R1, hD, hK, hR, hu⟩
  obtain ⟨u, hu0⟩ : ∃ u, u = Value.slice x n c := ⟨_, rfl⟩
  rw [← hu0] at hR hu hD hK
  have HU := Lib.hid hu0
  clear hu0
  clear D1 H0 bl bl2 c4
  go_upto_region 3 with fail
  rw [← HU.out]
  have D3 := Lib.hid (D2.out _ R1 u hR hu hD.out hK.out)
  have c5 : (w1.setCell ⟨b, 4, none⟩ u).cell? ⟨b, 5, none⟩ = some R.sn := by
    have := hD.out.cells.2.2.2.2.2
    rw [hR] at this
    exact this
  have bl := cell_in c5
  generalize w1.setCell ⟨b, 4, none⟩ u = W1 at D3 c5 bl ⊢
  clear D2 hD hK l1 k1 f1
  go_wp2_with fail
  refine D3.out.mono ?_
  rintro e w2 ⟨_, x2, n2, d2, rfl, rfl, l2, k2, f2, hF⟩
  clear D3 c5 bl
  go_wp2
  go_end0
  exact ⟨rfl, hF.out⟩
end Go.Proofs.YthdohcjingfpoaaGreatDoor.Dk
