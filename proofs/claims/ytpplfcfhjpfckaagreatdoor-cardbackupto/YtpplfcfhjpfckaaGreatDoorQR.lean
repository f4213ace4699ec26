/-
  What is proved here: what package card's Parse answers, for every text (a contract over the translation); tables are asked as premises.
  What is proved here: plain facts for the walk of chimelaw2.CardBack (no program).
-/
import Derived.Test.YtpplfcfhjpfckaaGreatDoorQQ
import Derived.Test.YtpplfcfhjpfckaaGreatDoorQK
import Derived.Test.YtpplfcfhjpfckaaGreatDoorQJ
namespace Go.Proofs.YtpplfcfhjpfckaaGreatDoor
open Go.RowKit Go.Shelf Cal Txt Ln Cb
attribute [local go_sem] Oper.semAt_some

theorem store_in {F : Fence} {n : Nat} {P : Program} (w : World) {ops : Array Oper} {rest : List Oper} {o : Oper} {a : Act} {Q : Exit → Act → World → Prop}
    (hg : o.guard = none) (ty : TypeId) (x y : Operand) (hop : o.op = .store ty x y) (b of : Nat) (cells : Array Value) (hx : a.eval x = .pointer (some ⟨b, of, none⟩)) (hy : a.eval y = .agg cells)
    (ht : w.there b of cells.size) (hi : (P.info? ty).map (·.size) = some cells.size) (h1 : cells.all (·.oneCell') = true) (h : ∀ w', w' = w.setCells b of cells.toList → wpListIn F n P ops Q rest (a.put o.dst undef) w') : wpListIn F n P ops Q (o :: rest) a w := by
  refine wpListIn_plain hg fun K hK' => ?_
  have hL := run_storeAt_mid (P := P) w b of ty cells ht hi h1
  unfold Oper.wpIn
  refine ⟨?_, ?_⟩
  · simp [Oper.about, hop]
  · rw [Oper.semAt_plain F _ _ (by rw [hop]; intro c hc'; cases hc')]
    simp only [execOp, hop, hx, hy, Sem.run_bind, hL, Result.andThen_ok, Sem.run_pure]
    exact hK' _ _ (h _ rfl)
/-- A text that is read, and what it is read as. -/
def Psd (l : List UInt8) (e : Evt) : Prop := okF l ∧ ends l = true ∧ (∃ nx, 4 ≤ nx ∧ tkL (e00, 0) (whl l) = some (e, nx)) ∧ evF e = 0
theorem wls_ok {l : List UInt8} (h : okF l) : wls l = (whl l).map fun w => (tb w, 0) := by
  unfold wls whl
  rw [List.map_map]
  exact List.map_congr_left (fun g hg => by unfold wlP; rw [if_pos (h g hg)]; rfl)
theorem ps_yes {l : List UInt8} {st : Evt × Nat} (ho : okF l) (h : taR l ((e00, 0), 0) = some st) : ends l = true ∧ 4 ≤ st.2 ∧ tkL (e00, 0) (whl l) = some st := by
  unfold taR at h
  rw [wls_ok ho] at h
  split at h
  case isFalse => cases h
  case isTrue q =>
    cases ht : tkL (e00, 0) (whl l) with
    | none => rw [(run_tk (whl l) (e00, 0) 0).2 ht] at q; exact absurd q.1 (by decide)
    | some st' =>
      rw [(run_tk (whl l) (e00, 0) 0).1 st' ht] at q h
      have e1 : st' = st := Option.some.inj h
      subst e1
      dsimp only at q
      refine ⟨?_, q.2.2, rfl⟩
      rcases q.2.1 with z | z
      · have : whl l = [] := List.eq_nil_of_length_eq_zero (by omega)
        rw [this] at ht
        have e2 : (e00, 0) = st' := Option.some.inj ht
        have := q.2.2
        rw [← e2] at this
        exact absurd this (by decide)
      · exact z
theorem ps_no {l : List UInt8} (h : taR l ((e00, 0), 0) = none) (e : Evt) : ¬ Psd l e := by
  rintro ⟨ho, he, ⟨nx, h4, ht⟩, _⟩
  unfold taR at h
  rw [wls_ok ho, (run_tk (whl l) (e00, 0) 0).1 _ ht, if_pos ⟨rfl, Or.inr he, h4⟩] at h
  cases h
/-- The first fault of the folding. -/
def psF (x : Int) (q : ByteArray × Int) : Int × Bool := if q.2 = 0 then (x, true) else (q.2, false)
theorem psF_run : ∀ (gs : List (List (List UInt8))) (x y : Int) (b : Bool), Sg.run psF x (gs.map wlP) = (y, b) → (b = true ↔ ∀ g ∈ gs, fold (unf g) = g)
  | [], x, y, b, h => by
    rw [List.map_nil, Sg.run_nil] at h
    have : b = true := (congrArg Prod.snd h).symm
    simp [this]
  | g :: gs, x, y, b, h => by
    by_cases q : fold (unf g) = g
    · have e1 : psF x (wlP g) = (x, true) := by unfold psF wlP; rw [if_pos q, if_pos rfl]
      rw [List.map_cons, Sg.run_yes e1] at h
      rw [psF_run gs x y b h]
      simp [q]
    · have e1 : psF x (wlP g) = (2, false) := by unfold psF wlP; rw [if_neg q, if_neg (by decide)]
      rw [List.map_cons, Sg.run_no e1] at h
      have : b = false := (congrArg Prod.snd h).symm
      simp [this, q]
theorem EOwn.same {W W' : World} {b : Nat} {e : Evt} {s : Evs} (h : EOwn W b e s) (q : W'.heap[b]? = W.heap[b]?) : EOwn W' b e s := by
  have k : ∀ (o : Nat) (v : Value), W.cell? ⟨b, o, none⟩ = some v → W'.cell? ⟨b, o, none⟩ = some v := fun o v z => (World.cell?_of_block q).trans z
  obtain ⟨⟨⟨a0, a1, a2, a3, a4⟩, ⟨b0, b1, b2, b3, b4, b5, b6, b7⟩, c0, c1, c2, c3⟩, hf⟩ := h
  exact ⟨⟨⟨k _ _ a0, k _ _ a1, k _ _ a2, k _ _ a3, k _ _ a4⟩, ⟨k _ _ b0, k _ _ b1, k _ _ b2, k _ _ b3, k _ _ b4, k _ _ b5, k _ _ b6, k _ _ b7⟩, k _ _ c0, k _ _ c1, k _ _ c2, k _ _ c3⟩, fun o => (show W'.frozen? ⟨b, o, none⟩ = W.frozen? ⟨b, o, none⟩ by simp only [World.frozen?, q]).trans (hf o)⟩
theorem EOwn.there {W : World} {b : Nat} {e : Evt} {s : Evs} (h : EOwn W b e s) : W.there b 0 17 := fun j hj => by
  obtain ⟨⟨⟨a0, a1, a2, a3, a4⟩, ⟨b0, b1, b2, b3, b4, b5, b6, b7⟩, c0, c1, c2, c3⟩, hf⟩ := h
  refine ⟨?_, hf _⟩
  rcases (by omega : j = 0 ∨ j = 1 ∨ j = 2 ∨ j = 3 ∨ j = 4 ∨ j = 5 ∨ j = 6 ∨ j = 7 ∨ j = 8 ∨ j = 9 ∨ j = 10 ∨ j = 11 ∨ j = 12 ∨ j = 13 ∨ j = 14 ∨ j = 15 ∨ j = 16) with rfl | rfl | rfl | rfl | rfl | rfl | rfl | rfl | rfl | rfl | rfl | rfl | rfl | rfl | rfl | rfl | rfl
  · rw [a0]; rfl
  · rw [a1]; rfl
  · rw [a2]; rfl
  · rw [a3]; rfl
  · rw [a4]; rfl
  · rw [b0]; rfl
  · rw [b1]; rfl
  · rw [b2]; rfl
  · rw [b3]; rfl
  · rw [b4]; rfl
  · rw [b5]; rfl
  · rw [b6]; rfl
  · rw [b7]; rfl
  · rw [c0]; rfl
  · rw [c1]; rfl
  · rw [c2]; rfl
  · rw [c3]; rfl
/-- An event is laid over another. -/
theorem EOwn.over {W : World} {b : Nat} {e : Evt} {s : Evs} (h : EOwn W b e s) (e' : Evt) (s' : Evs) : EOwn (W.setCells b 0 (ecells e' s').toList) b e' s' :=
  ⟨EBox.of_range (World.rangeAt_setCells_same _ _ _ _ h.there), fun o => by rw [World.frozen?_setCells]; exact h.2 o⟩
/-- The three answers. -/
structure Ps3 (z : Nat) (e : Evt) (s : Evs) (n : Int) (v : Value) (W : World) : Prop where
  c0 : EOwn W z e s
  c1 : Boxed W (z + 1) 3 (.int .i64 n)
  c2 : Boxed W (z + 2) 31 v
theorem Ps3.same {z : Nat} {e : Evt} {s : Evs} {n : Int} {v : Value} {W W' : World} (h : Ps3 z e s n v W) (q : ∀ k, z ≤ k ∧ k < z + 3 → W'.heap[k]? = W.heap[k]?) : Ps3 z e s n v W' :=
  ⟨h.c0.same (q _ ⟨by omega, by omega⟩), (q _ ⟨by omega, by omega⟩).trans h.c1, (q _ ⟨by omega, by omega⟩).trans h.c2⟩
def PsI (z : Nat) (_x : Int) (S : Nat → Prop) (W : World) : Prop := (∀ k, S k ↔ (z ≤ k ∧ k < z + 3)) ∧ Ps3 z e00 nil8 0 .nilIface W
def PsX (z : Nat) (c : Code) (x : Int) (S : Nat → Prop) (W : World) : Prop := c = .ret ∧ ¬ x = 0 ∧ (∀ k, S k ↔ (z ≤ k ∧ k < z + 3)) ∧ Ps3 z e00 nil8 0 (.iface 45 (.int .i64 x)) W
theorem PsI.frm (z : Nat) : Frm z (PsI z) :=
  ⟨fun x S W h k hk => by have := (h.1 k).1 hk; have := h.2.c2.lt; exact ⟨by omega, by omega⟩, fun x S W W' h q same => ⟨h.1, h.2.same (fun k hk => same k ((h.1 k).2 hk))⟩⟩
theorem PsX.frm (z : Nat) (c : Code) : Frm z (PsX z c) :=
  ⟨fun x S W h k hk => by have := (h.2.2.1 k).1 hk; have := h.2.2.2.c2.lt; exact ⟨by omega, by omega⟩, fun x S W W' h q same => ⟨h.1, h.2.1, h.2.2.1, h.2.2.2.same (fun k hk => same k ((h.2.2.1 k).2 hk))⟩⟩
theorem RdJ.evb {b n1 : Nat} {e : Evt} {nx : Nat} {s : Evs} {S : Nat → Prop} {W : World} (h : RdJ b n1 e nx s S W) : EvB W e s :=
  ⟨h.ru.1.1, h.ru.2.1.1, h.ru.2.2.1.1, h.ru.2.2.2.1, row_ints h.r5, row_ints h.r6, row_nths h.r7, row_alms h.r8⟩
theorem RdJ.rng {b n1 : Nat} {e : Evt} {nx : Nat} {s : Evs} {S : Nat → Prop} {W : World} (h : RdJ b n1 e nx s S W) : W.rangeAt b 0 (ecells e s).toList := fun j v hv => by
  have hj : j < 17 := (List.getElem?_eq_some_iff.1 hv).1
  refine h.rb.cell _ _ ?_
  rw [Nat.zero_add, ← hv]
  rcases (by omega : j = 0 ∨ j = 1 ∨ j = 2 ∨ j = 3 ∨ j = 4 ∨ j = 5 ∨ j = 6 ∨ j = 7 ∨ j = 8 ∨ j = 9 ∨ j = 10 ∨ j = 11 ∨ j = 12 ∨ j = 13 ∨ j = 14 ∨ j = 15 ∨ j = 16) with rfl | rfl | rfl | rfl | rfl | rfl | rfl | rfl | rfl | rfl | rfl | rfl | rfl | rfl | rfl | rfl | rfl <;> rfl
/-- The answers are laid. -/
theorem Ps3.lay {z : Nat} {e : Evt} {s : Evs} {n : Int} {v : Value} {W : World} (h : Ps3 z e s n v W) (e' : Evt) (s' : Evs) (n' : Int) (v' : Value) (W1 : World) (hw : W1 = W.setCells z 0 (ecells e' s').toList) :
    Boxed W1 (z + 1) 3 (.int .i64 n) ∧ Boxed (W1.setCell ⟨z + 1, 0, none⟩ (.int .i64 n')) (z + 2) 31 v ∧
    Ps3 z e' s' n' v' ((W1.setCell ⟨z + 1, 0, none⟩ (.int .i64 n')).setCell ⟨z + 2, 0, none⟩ v') ∧ Kps (fun k => z ≤ k ∧ k < z + 3) W ((W1.setCell ⟨z + 1, 0, none⟩ (.int .i64 n')).setCell ⟨z + 2, 0, none⟩ v') := by
  subst hw
  have kA : Kps (fun j => j = z) W (W.setCells z 0 (ecells e' s').toList) := kps_cells z _ 0 W
  have kB : Kps (fun j => j = z + 1) (W.setCells z 0 (ecells e' s').toList) ((W.setCells z 0 (ecells e' s').toList).setCell ⟨z + 1, 0, none⟩ (.int .i64 n')) := Kps.set _ rfl
  have kC : Kps (fun j => j = z + 2) ((W.setCells z 0 (ecells e' s').toList).setCell ⟨z + 1, 0, none⟩ (.int .i64 n')) (((W.setCells z 0 (ecells e' s').toList).setCell ⟨z + 1, 0, none⟩ (.int .i64 n')).setCell ⟨z + 2, 0, none⟩ v') := Kps.set _ rfl
  have a0 := h.c0.over e' s'
  have a1 : Boxed (W.setCells z 0 (ecells e' s').toList) (z + 1) 3 (.int .i64 n) := (kA.block _ h.c1.lt (by omega)).trans h.c1
  have a2 : Boxed (W.setCells z 0 (ecells e' s').toList) (z + 2) 31 v := (kA.block _ h.c2.lt (by omega)).trans h.c2
  have b0 := a0.same (kB.block _ a0.1.lt (by omega))
  have b1 := a1.set (.int .i64 n')
  have b2 : Boxed ((W.setCells z 0 (ecells e' s').toList).setCell ⟨z + 1, 0, none⟩ (.int .i64 n')) (z + 2) 31 v := (kB.block _ a2.lt (by omega)).trans a2
  exact ⟨a1, b2, ⟨b0.same (kC.block _ b0.1.lt (by omega)), (kC.block _ b1.lt (by omega)).trans b1, b2.set v'⟩, ((kA.mono (S1 := fun k => z ≤ k ∧ k < z + 3) (fun j hj => by omega)).trans (kB.mono (S1 := fun k => z ≤ k ∧ k < z + 3) (fun j hj => by omega)) (Gr.refl _ _)).trans (kC.mono (S1 := fun k => z ≤ k ∧ k < z + 3) (fun j hj => by omega)) (Gr.refl _ _)⟩
end Go.Proofs.YtpplfcfhjpfckaaGreatDoor
namespace Go.Proofs.YtpplfcfhjpfckaaGreatDoor
open Cal Txt Ln Cb

/-- What has nothing wrong can be written. -/
theorem syn_of {r : Rl} (h : rf r = 0) : Syn r := by
  obtain ⟨o1, o2, o3, o4, o5, o6⟩ := rf_good h
  obtain ⟨⟨a1, a2⟩, ⟨b1, b2⟩, ⟨c1, c2⟩, d1, d2⟩ := of_decide_eq_true o1
  obtain ⟨⟨⟨g1, g2⟩, g3⟩, g4⟩ : ((r.months.all monP = true ∧ r.days.all plaP = true) ∧ r.weeks.all wkP = true) ∧ r.pick.all plaP = true := by simpa [itemsB] using o4
  refine ⟨⟨a1, a2⟩, by omega, by omega, by omega, fun n hn => ?_, fun n hn => ?_, fun x hx => ?_, fun n hn => ?_⟩
  · have := of_decide_eq_true (List.all_eq_true.1 g1 n hn); omega
  · have := of_decide_eq_true (List.all_eq_true.1 g2 n hn); omega
  · have := of_decide_eq_true (List.all_eq_true.1 g3 x hx); exact ⟨by omega, this.1, this.2.1⟩
  · have := of_decide_eq_true (List.all_eq_true.1 g4 n hn); omega
theorem psd_read {e : Evt} (h : evF e = 0) : Psd (crd e) e := by
  obtain ⟨a, b, nx, c, _, d⟩ := card_read h (fun r hr => syn_of hr)
  exact ⟨a, b, ⟨nx, c, d⟩, h⟩
theorem psd_back {l : List UInt8} {e : Evt} (h : Psd l e) : crd e = l := by
  obtain ⟨a, b, ⟨nx, c, d⟩, f⟩ := h
  exact card_back a b d c f
theorem psd_one {l : List UInt8} {e e' : Evt} (h : Psd l e) (h' : Psd l e') : e = e' := by
  obtain ⟨a, b, ⟨nx, c, d⟩, f⟩ := h
  obtain ⟨a', b', ⟨nx', c', d'⟩, f'⟩ := h'
  rw [d] at d'
  exact congrArg Prod.fst (Option.some.inj d')
theorem ru_ok2 {e : Evt} (h : ruF e = 0) : ok2 e.rule = true := by
  unfold ruF at h
  split at h
  · exact (rf_good h).2.2.1
  · split at h
    · rename_i q
      unfold emB at q
      simp at q
      simp [ok2, q]
    · cases h
/-- The event of the law's fact, and its text. -/
def eF : Evt := ⟨⟨#[97]⟩, ⟨#[]⟩, 66729179, 60, false, r00, [], [], [], []⟩
def tF : List UInt8 := [78, 65, 77, 69, 58, 97, 10, 83, 84, 65, 82, 84, 58, 50, 48, 50, 54, 45, 49, 49, 45, 49, 53, 32, 49, 54, 58, 53, 57, 10, 76, 69, 78, 71, 84, 72, 58, 49, 104, 10]
theorem eF_ok : evF eF = 0 := by decide +kernel
theorem eF_txt : crd eF = tF := by
  have h1 : txt 66729179 = [50, 48, 50, 54, 45, 49, 49, 45, 49, 53, 32, 49, 54, 58, 53, 57] := by decide +kernel
  have h2 : spt 60 = [49, 104] := by decide +kernel
  have h3 : cdL eF = [kwName ++ [97], kwStart ++ txt 66729179, kwLen ++ spt 60] := rfl
  unfold crd
  rw [h3, h1, h2]
  decide +kernel
theorem psd_fact {e : Evt} (h : Psd tF e) : e = eF := psd_one h (eF_txt ▸ psd_read eF_ok)
theorem psd_fact_is : Psd tF eF := eF_txt ▸ psd_read eF_ok
end Go.Proofs.YtpplfcfhjpfckaaGreatDoor
