/-
  What is proved here: plain facts on the days of a rule in all: period by period, cut at an end, passed over; no program is named.
  What is proved here: a law of our own on ranges over a function: who goes over may keep blocks of its own (a set of them that grows), the function that is gone over too; what both do is told by a fold.
  What is proved here: what package seq's ofPeriods hands out (a contract over the translation).
  What is proved here: what package seq's ofPeriods makes, and what its onFrom hands out (contracts over the translation).
  What is proved here: how many periods package seq passes over (a contract over the translation).
-/
import Derived.Test.YthdohcjingfpoaaGreatDoorPer
import Derived.Test.YthdohcjingfpoaaGreatDoorLow
import Derived.RangeFuncNested
import Derived.RangeFuncBound
import Derived.Test.YthdohcjingfpoaaGreatDoorBF
import Derived.RangeFuncCalls
import Derived.RangeFuncLeaves
import Derived.Shelf.Abstract
import Derived.Shelf.RegionOpen
import Derived.WalkKit
import Derived.OwnWalkIn
import Derived.TacticsInMore
import Derived.LoopNIn
import Derived.LoopIn
import Derived.Laws.EntriesVeiled
import Derived.BigQuiet
namespace Go.Proofs.YthdohcjingfpoaaGreatDoor
open Cal Txt

/-- Days of so many periods from the k-th on, as far as they do not begin behind t. -/
def fl (r : Rl) (s t : Int) : Nat → Int → List Int
  | 0, _ => []
  | n + 1, k => match pE r s k with
    | none => []
    | some (a, b) => if t < a then [] else perD r s a b ++ fl r s t n (k + 1)
/-- .. of all of them. -/
def flat (r : Rl) (s t k : Int) : List Int := fl r s t (109574 - k).toNat k
theorem fl_none {r : Rl} {s t k : Int} (h : pE r s k = none) : ∀ n, fl r s t n k = []
  | 0 => rfl
  | n + 1 => by
    show (match pE r s k with | none => [] | some (a, b) => if t < a then [] else perD r s a b ++ fl r s t n (k + 1)) = _
    rw [h]
theorem flat_none {r : Rl} {s t k : Int} (h : pE r s k = none) : flat r s t k = [] := fl_none h _
theorem flat_some {r : Rl} {s t k a b : Int} (h : pE r s k = some (a, b)) : flat r s t k = if t < a then [] else perD r s a b ++ flat r s t (k + 1) := by
  obtain ⟨_, hk, _, _⟩ := pE_some h
  unfold flat
  rw [show (109574 - k).toNat = (109574 - (k + 1)).toNat + 1 by omega]
  show (match pE r s k with | none => [] | some (a, b) => if t < a then [] else perD r s a b ++ fl r s t _ (k + 1)) = _
  rw [h]
theorem flat_far {r : Rl} {s t k a b : Int} (h : pE r s k = some (a, b)) (ht : t < a) : flat r s t k = [] := by rw [flat_some h, if_pos ht]
theorem flat_on {r : Rl} {s t k a b : Int} (h : pE r s k = some (a, b)) (ht : a ≤ t) : flat r s t k = perD r s a b ++ flat r s t (k + 1) := by rw [flat_some h, if_neg (by omega)]
end Go.Proofs.YthdohcjingfpoaaGreatDoor
namespace Go.Proofs.YthdohcjingfpoaaGreatDoor
open Go.RowKit Go

/-- All blocks but those of S are as they were. -/
structure Kps (S : Nat → Prop) (W W' : World) : Prop where
  os : W'.os = W.os
  tape : W'.tape = W.tape
  output : W'.output = W.output
  size : W.heap.size ≤ W'.heap.size
  block : ∀ k, k < W.heap.size → ¬ S k → W'.heap[k]? = W.heap[k]?
/-- S' has what S has, and what is new. -/
def Gr (S : Nat → Prop) (W : World) (S' : Nat → Prop) : Prop := ∀ k, S' k → S k ∨ W.heap.size ≤ k
theorem Gr.refl (S : Nat → Prop) (W : World) : Gr S W S := fun _ h => Or.inl h
theorem Gr.trans {S S1 S2 : Nat → Prop} {W W1 : World} (h : Gr S W S1) (k : Gr S1 W1 S2) (hs : W.heap.size ≤ W1.heap.size) : Gr S W S2 := fun b hb => by
  rcases k b hb with q | q
  · exact h b q
  · exact Or.inr (Nat.le_trans hs q)
theorem Kps.refl (S : Nat → Prop) (W : World) : Kps S W W := ⟨rfl, rfl, rfl, Nat.le_refl _, fun _ _ _ => rfl⟩
theorem Kps.trans {S S1 : Nat → Prop} {W W1 W2 : World} (h : Kps S W W1) (k : Kps S1 W1 W2) (g : Gr S W S1) : Kps S W W2 :=
  ⟨k.os.trans h.os, k.tape.trans h.tape, k.output.trans h.output, Nat.le_trans h.size k.size, fun b hb hS =>
    (k.block b (Nat.lt_of_lt_of_le hb h.size) (fun q => (g b q).elim hS (fun z => absurd hb (Nat.not_lt.2 z)))).trans (h.block b hb hS)⟩
theorem Kps.mono {S S1 : Nat → Prop} {W W1 : World} (h : Kps S W W1) (g : ∀ k, S k → S1 k) : Kps S1 W W1 :=
  ⟨h.os, h.tape, h.output, h.size, fun b hb hS => h.block b hb (fun q => hS (g b q))⟩
theorem Kps.below {S : Nat → Prop} {W W1 : World} {n0 : Nat} (h : Kps S W W1) (g : ∀ k, S k → n0 ≤ k) (hn : n0 ≤ W.heap.size) : Below n0 W W1 :=
  ⟨h.os, h.tape, h.output, h.size, fun b hb => h.block b (Nat.lt_of_lt_of_le hb hn) (fun q => absurd hb (Nat.not_lt.2 (g b q)))⟩
theorem Kps.of_below {S : Nat → Prop} {W W1 : World} (h : Below W.heap.size W W1) : Kps S W W1 := ⟨h.os, h.tape, h.output, h.size, fun b hb _ => h.block b hb⟩
theorem Kps.put {S : Nat → Prop} {W : World} {l : Nat} (o : Obj) (hl : S l) : Kps S W (W.putObj l o) :=
  ⟨rfl, rfl, rfl, by simp, fun b _ hS => World.putObj_heap_other (fun e => hS (by rw [e]; exact hl))⟩
theorem Kps.set {S : Nat → Prop} {W : World} {p : Addr} (v : Value) (hl : S p.block) : Kps S W (W.setCell p v) :=
  ⟨rfl, rfl, rfl, by simp [World.setCell], fun b _ hS => Below.heap_setCell _ _ _ _ (fun e => hS (by rw [e]; exact hl))⟩

variable {σ : Type}
/-- What hangs on blocks of S and on what is below n0 alone. -/
structure Frm (n0 : Nat) (J : σ → (Nat → Prop) → World → Prop) : Prop where
  lt : ∀ x S W, J x S W → ∀ k, S k → n0 ≤ k ∧ k < W.heap.size
  on : ∀ x S W W', J x S W → Below n0 W W' → (∀ k, S k → W'.heap[k]? = W.heap[k]?) → J x S W'
/-- One by one, until one says: no more. -/
def run (f : σ → Int → σ × Bool) : σ → List Int → σ × Bool
  | x, [] => (x, true)
  | x, n :: ns => match f x n with
    | (y, true) => run f y ns
    | (y, false) => (y, false)
theorem run_nil (f : σ → Int → σ × Bool) (x : σ) : run f x [] = (x, true) := rfl
theorem run_yes {f : σ → Int → σ × Bool} {x y : σ} {n : Int} (h : f x n = (y, true)) (ns : List Int) : run f x (n :: ns) = run f y ns := by
  show (match f x n with | (y, true) => run f y ns | (y, false) => (y, false)) = _
  rw [h]
theorem run_no {f : σ → Int → σ × Bool} {x y : σ} {n : Int} (h : f x n = (y, false)) (ns : List Int) : run f x (n :: ns) = (y, false) := by
  show (match f x n with | (y, true) => run f y ns | (y, false) => (y, false)) = _
  rw [h]
theorem run_app (f : σ → Int → σ × Bool) : ∀ (xs ys : List Int) (x : σ), run f x (xs ++ ys) = if (run f x xs).2 = true then run f (run f x xs).1 ys else run f x xs
  | [], ys, x => by simp [run_nil]
  | n :: ns, ys, x => by
    rcases h : f x n with ⟨y, _ | _⟩
    · rw [List.cons_append, run_no h, run_no h]; simp
    · rw [List.cons_append, run_yes h, run_yes h]; exact run_app f ns ys y
/-- It goes on, or has ended. -/
def Out (J JX : σ → (Nat → Prop) → World → Prop) (p : σ × Bool) (S : Nat → Prop) (W : World) : Prop := (p.2 = true ∧ J p.1 S W) ∨ (p.2 = false ∧ JX p.1 S W)
theorem Out.mono {τ : Type} {J JX : σ → (Nat → Prop) → World → Prop} {K KX : τ → (Nat → Prop) → World → Prop} {p : σ × Bool} {q : τ × Bool} {S S' : Nat → Prop} {W W' : World} (h : Out J JX p S W) (e : p.2 = q.2) (h1 : J p.1 S W → K q.1 S' W') (h2 : JX p.1 S W → KX q.1 S' W') : Out K KX q S' W' := by
  rcases h with ⟨a, b⟩ | ⟨a, b⟩
  · exact Or.inl ⟨e ▸ a, h1 b⟩
  · exact Or.inr ⟨e ▸ a, h2 b⟩
/-- What yield does, told by a step; R: where it all ends. -/
def Yld (P : Program) (f : σ → Int → σ × Bool) (J JX : σ → (Nat → Prop) → World → Prop) (l : Nat) (R : σ × Bool) : Prop :=
  ∀ x S W n m, J x S W → (∃ ns, R = run f x (n :: ns)) → YieldAt Fence.wide m P l #[.int .i64 n] W fun e W' => e = .returned (.bool (f x n).2) ∧ ∃ S', Gr S W S' ∧ Kps S W W' ∧ Out J JX (f x n) S' W'
/-- A function hands out a list of numbers; T: blocks of its own, as they were in w0. -/
def Itr (P : Program) (g : Nat) (lb : Array Value) (xs : List Int) (n0 : Nat) (w0 : World) (T : Nat → Prop) : Prop :=
  ∀ (σ : Type) (f : σ → Int → σ × Bool) (J JX : σ → (Nat → Prop) → World → Prop) (l : Nat) (x : σ) (S : Nat → Prop) (W : World), Frm n0 J → Frm n0 JX → Yld P f J JX l (run f x xs) → J x S W → Below n0 w0 W → n0 ≤ w0.heap.size →
    (∀ k, T k → k < w0.heap.size ∧ n0 ≤ k ∧ ¬ S k ∧ W.heap[k]? = w0.heap[k]?) →
    Calls P g (#[.func (.yield l) #[] #[]] ++ lb) W fun e W' => (∃ v, e = .returned v) ∧ ∃ S', Gr S W S' ∧ Kps (fun k => S k ∨ T k) W W' ∧ Out J JX (run f x xs) S' W'
theorem Itr.more {P : Program} {g : Nat} {lb : Array Value} {xs : List Int} {n0 : Nat} {w0 : World} {T T' : Nat → Prop} (h : Itr P g lb xs n0 w0 T) (ht : ∀ b, T b → T' b) : Itr P g lb xs n0 w0 T' := fun σ f J JX l x S W a b c d e i hT =>
  (h σ f J JX l x S W a b c d e i (fun k hk => hT k (ht k hk))).mono (fun _ _ ⟨v, S', q1, q2, q3⟩ => ⟨v, S', q1, q2.mono (fun k hk => hk.imp id (ht k)), q3⟩)
/-- A consumer with blocks E of its own beside those of another one. -/
def Wth {τ : Type} (E : Nat → Prop) (H : τ → World → Prop) (π : τ → σ) (J : σ → (Nat → Prop) → World → Prop) (y : τ) (S : Nat → Prop) (W : World) : Prop :=
  ∃ S0 : Nat → Prop, (∀ b, S b ↔ (S0 b ∨ E b)) ∧ (∀ b, E b → ¬ S0 b) ∧ J (π y) S0 W ∧ H y W
theorem Wth.frm {τ : Type} {n0 : Nat} {E : Nat → Prop} {H : τ → World → Prop} {π : τ → σ} {J : σ → (Nat → Prop) → World → Prop} (hJ : Frm n0 J) (h0 : ∀ b, E b → n0 ≤ b) (hlt : ∀ y W, H y W → ∀ b, E b → b < W.heap.size)
    (hH : ∀ y W W', H y W → (∀ b, E b → W'.heap[b]? = W.heap[b]?) → H y W') : Frm n0 (Wth E H π J) := by
  refine ⟨fun y S W h b hb => ?_, fun y S W W' h q same => ?_⟩
  · obtain ⟨S0, e, _, hj, hh⟩ := h
    rcases (e b).1 hb with z | z
    · exact hJ.lt _ _ _ hj b z
    · exact ⟨h0 b z, hlt _ _ hh b z⟩
  · obtain ⟨S0, e, d, hj, hh⟩ := h
    exact ⟨S0, e, d, hJ.on _ _ _ _ hj q (fun b hb => same b ((e b).2 (Or.inl hb))), hH _ _ _ hh (fun b hb => same b ((e b).2 (Or.inr hb)))⟩
/-- What a step of the other one leaves. -/
theorem wth_step {E S S0 S1 : Nat → Prop} {W W1 : World} (e : ∀ b, S b ↔ (S0 b ∨ E b)) (d : ∀ b, E b → ¬ S0 b) (hlt : ∀ b, E b → b < W.heap.size) (g : Gr S0 W S1) (k : Kps S0 W W1) :
    (∀ b, E b → ¬ S1 b) ∧ (∀ b, E b → W1.heap[b]? = W.heap[b]?) ∧ Gr S W (fun b => S1 b ∨ E b) ∧ Kps S W W1 := by
  refine ⟨fun b hb z => (g b z).elim (d b hb) (fun u => absurd (hlt b hb) (Nat.not_lt.2 u)), fun b hb => k.block b (hlt b hb) (d b hb), fun b hb => ?_, k.mono (fun b hb => (e b).2 (Or.inl hb))⟩
  rcases hb with z | z
  · exact (g b z).imp (fun u => (e b).2 (Or.inl u)) id
  · exact Or.inl ((e b).2 (Or.inr z))
/-- How the body of a round may be left. -/
def bPost (f : σ → Int → σ × Bool) (I : σ → (Nat → Prop) → World → Prop) (Ix : Code → σ → (Nat → Prop) → World → Prop) (x : σ) (S : Nat → Prop) (n : Int) (W : World) : Exit → Act → World → Prop
  | .normal, _, W' => ∃ y S', f x n = (y, true) ∧ Gr S W S' ∧ Kps S W W' ∧ I y S' W'
  | .ret, _, W' => ∃ y S', f x n = (y, false) ∧ Gr S W S' ∧ Kps S W W' ∧ Ix .ret y S' W'
  | .exit id, _, W' => ∃ y S', f x n = (y, false) ∧ Gr S W S' ∧ Kps S W W' ∧ Ix (.exit id) y S' W'
  | .goto t, _, W' => ∃ y S', f x n = (y, false) ∧ Gr S W S' ∧ Kps S W W' ∧ Ix (.goto t) y S' W'
  | .panic _, _, _ => False
  | .outgrown, _, _ => False

theorem rf_law2 {P : Program} {g : Operand} {ps : Array Tmp} {assign body : Code} {Q : Exit → Act → World → Prop} {a : Act} {w : World} {m : Nat}
    {gf : Nat} {lb : Array Value} (hg : a.eval g = .func (.func gf) #[] lb) (eg : ∀ args w, (callFunc gf args).run P w = .ok (.enter gf args) w)
    {n0 : Nat} {w0 : World} {T : Nat → Prop} {xs : List Int} (hseq : Itr P gf lb xs n0 w0 T) (hb0 : Below n0 w0 w) (hn0 : n0 ≤ w0.heap.size)
    (f : σ → Int → σ × Bool) (I : σ → (Nat → Prop) → World → Prop) (Ix : Code → σ → (Nat → Prop) → World → Prop) (hI : Frm n0 I) (hIx : ∀ c, Frm n0 (Ix c)) (x0 : σ) (S0 : Nat → Prop) (h0 : I x0 S0 w)
    (hT : ∀ k, T k → k < w0.heap.size ∧ n0 ≤ k ∧ ¬ S0 k ∧ w.heap[k]? = w0.heap[k]?) (hps : ps.size = 1) (a₁ : Int → Act)
    (hassign : ∀ (l : Nat) (n : Int) (W : World) (K : Act → World → Prop), K (a₁ n) W →
      assign.wpIn (Fence.wide.inRound l) m P (Exit.then K (fun _ _ _ => False)) { tmps := (ps.zip #[.int .i64 n]).foldl (fun t (p, v) => t.setIfInBounds p v) a.tmps, defers := [] } W)
    (hbody : ∀ (l : Nat) (x : σ) (S : Nat → Prop) (n : Int) (W : World), I x S W → n0 ≤ W.heap.size → (∃ ns, run f x0 xs = run f x (n :: ns)) → body.wpIn (Fence.wide.inRound l) m P (bPost f I Ix x S n W) (a₁ n) W)
    (hdone : ∀ (D : Nat) (x : σ) (S : Nat → Prop) (W : World), w.heap.size ≤ D → ¬ S D → run f x0 xs = (x, true) → I x S W → Gr S0 w S → Kps (fun k => S0 k ∨ T k) w W → W.heap[D]? = some (.deferred (some [])) →
      Q .normal { a with defers := { target := .collected D, args := #[] } :: a.defers } W)
    (hstop : ∀ (D : Nat) (c : Code) (x : σ) (S : Nat → Prop) (W : World), w.heap.size ≤ D → ¬ S D → run f x0 xs = (x, false) → Ix c x S W → Gr S0 w S → Kps (fun k => S0 k ∨ T k) w W → W.heap[D]? = some (.deferred (some [])) →
      c.wpIn Fence.wide m P Q { a with defers := { target := .collected D, args := #[] } :: a.defers } W) :
    (Code.rangeFunc g ps assign body).wpIn Fence.wide m P Q a w := by
  have hnw : n0 ≤ w.heap.size := Nat.le_trans hn0 hb0.size
  refine wpIn_rangeFunc ?_
  intro fn hfn
  rw [show Fence.wide.round = none from rfl]
  obtain ⟨rec, hrec⟩ : ∃ rec : LoopState → Option Code → Loop, rec = fun st pe => { state := st, pending := pe, fn, tmps := a.tmps, params := ps, assign, body, defers := w.heap.size } := ⟨_, rfl⟩
  obtain ⟨W1, hW1⟩ : ∃ W1, (w.alloc (.deferred (some []))).alloc (.loop (rec .ready none)) = W1 := ⟨_, rfl⟩
  have hL1 : W1.heap[w.heap.size + 1]? = some (.loop (rec .ready none)) := by
    rw [← hW1]; have := World.alloc_heap_new (w.alloc (.deferred (some []))) (.loop (rec .ready none)); rwa [World.size_alloc] at this
  have hK1 : W1.heap[w.heap.size]? = some (.deferred (some [])) := by
    rw [← hW1]; exact (Below.heap_alloc _ _ _ (by simp)).trans (World.alloc_heap_new w _)
  have hB1 : Below w.heap.size w W1 := by rw [← hW1]; exact ((Below.refl _ w).alloc (Nat.le_refl _) _).alloc (by simp) _
  have hI1 : I x0 S0 W1 := hI.on _ _ _ _ h0 (hB1.mono hnw) (fun k hk => hB1.block k (hI.lt _ _ _ h0 k hk).2)
  have hs0 : ∀ k, S0 k → k < w.heap.size := fun k hk => (hI.lt _ _ _ h0 k hk).2
  refine ⟨w.heap.size + 1, [{ target := .collected w.heap.size, args := #[] }], W1, { target := .fn (.func gf) lb, args := #[.func (.yield (w.heap.size + 1)) #[] #[]] }, W1, gf,
    #[.func (.yield (w.heap.size + 1)) #[] #[]] ++ lb, W1, ?_, ?_, ?_, ?_, fun h => (by cases h), ?_⟩
  · rw [← hW1, hrec]; exact run_enterLoop_outer _ _ _ _ _
  · simp only [resolve, hg]
    simp [go_sem]
  · intro f' _; trivial
  · simp [invoke, go_sem, eg]
  · obtain ⟨D, hD⟩ : ∃ D, D = w.heap.size := ⟨_, rfl⟩
    rw [← hD] at hL1 hK1 hnw hs0 hB1 ⊢
    have lt2 : ∀ {W : World} {o : Obj} {k : Nat}, W.heap[k]? = some o → k < W.heap.size := fun h => (Array.getElem?_eq_some_iff.1 h).1
    have FJ : Frm n0 (fun (x : σ) (S : Nat → Prop) (W : World) => ∃ R : Nat → Prop, (∀ k, S k ↔ (R k ∨ k = D ∨ k = D + 1)) ∧ ¬ R D ∧ ¬ R (D + 1) ∧ I x R W ∧ W.heap[D + 1]? = some (.loop (rec .ready none)) ∧ W.heap[D]? = some (.deferred (some []))) := by
      refine ⟨fun x S W h k hk => ?_, fun x S W W' h q same => ?_⟩
      · obtain ⟨R, hR, r1, r2, hi, hl, hd⟩ := h
        rcases (hR k).1 hk with z | rfl | rfl
        · exact hI.lt _ _ _ hi k z
        · exact ⟨hnw, lt2 hd⟩
        · exact ⟨by omega, lt2 hl⟩
      · obtain ⟨R, hR, r1, r2, hi, hl, hd⟩ := h
        exact ⟨R, hR, r1, r2, hI.on _ _ _ _ hi q (fun k hk => same k ((hR k).2 (Or.inl hk))), (same _ ((hR _).2 (Or.inr (Or.inr rfl)))).trans hl, (same _ ((hR _).2 (Or.inr (Or.inl rfl)))).trans hd⟩
    have FX : Frm n0 (fun (x : σ) (S : Nat → Prop) (W : World) => ∃ (R : Nat → Prop) (c : Code), (∀ k, S k ↔ (R k ∨ k = D ∨ k = D + 1)) ∧ ¬ R D ∧ ¬ R (D + 1) ∧ Ix c x R W ∧ W.heap[D + 1]? = some (.loop (rec .done (some c))) ∧ W.heap[D]? = some (.deferred (some []))) := by
      refine ⟨fun x S W h k hk => ?_, fun x S W W' h q same => ?_⟩
      · obtain ⟨R, c, hR, r1, r2, hi, hl, hd⟩ := h
        rcases (hR k).1 hk with z | rfl | rfl
        · exact (hIx c).lt _ _ _ hi k z
        · exact ⟨hnw, lt2 hd⟩
        · exact ⟨by omega, lt2 hl⟩
      · obtain ⟨R, c, hR, r1, r2, hi, hl, hd⟩ := h
        exact ⟨R, c, hR, r1, r2, (hIx c).on _ _ _ _ hi q (fun k hk => same k ((hR k).2 (Or.inl hk))), (same _ ((hR _).2 (Or.inr (Or.inr rfl)))).trans hl, (same _ ((hR _).2 (Or.inr (Or.inl rfl)))).trans hd⟩
    refine callsIn_wide.2 ((hseq σ f _ _ (D + 1) x0 (fun k => S0 k ∨ k = D ∨ k = D + 1) W1 FJ FX ?_ ⟨S0, fun k => Iff.rfl, fun q => by have := hs0 _ q; omega, fun q => by have := hs0 _ q; omega, hI1, hL1, hK1⟩ (hb0.trans (hB1.mono hnw)) hn0 ?_).mono ?_)
    · -- one round
      rintro x S W n _ ⟨R, hR, r1, r2, hi, hl, hk⟩ hE
      have hy := run_yield (P := P) (args := #[.int .i64 n]) hl (by rw [hrec]; exact hps.symm)
      rw [hrec] at hy
      refine ⟨fn, _, assign, body, hy, ?_⟩
      have hround : RoundIn Fence.wide m P (D + 1) fn ((ps.zip #[.int .i64 n]).foldl (fun t (p, v) => t.setIfInBounds p v) a.tmps) assign body W (fun e W' => e = .returned (.bool (f x n).2) ∧ ∃ S', Gr S W S' ∧ Kps S W W' ∧ Out (fun (x : σ) (S : Nat → Prop) (W : World) => ∃ R : Nat → Prop, (∀ k, S k ↔ (R k ∨ k = D ∨ k = D + 1)) ∧ ¬ R D ∧ ¬ R (D + 1) ∧ I x R W ∧ W.heap[D + 1]? = some (.loop (rec .ready none)) ∧ W.heap[D]? = some (.deferred (some []))) (fun (x : σ) (S : Nat → Prop) (W : World) => ∃ (R : Nat → Prop) (c : Code), (∀ k, S k ↔ (R k ∨ k = D ∨ k = D + 1)) ∧ ¬ R D ∧ ¬ R (D + 1) ∧ Ix c x R W ∧ W.heap[D + 1]? = some (.loop (rec .done (some c))) ∧ W.heap[D]? = some (.deferred (some []))) (f x n) S' W') := by
        refine roundIn_of_wpIn hfn (hassign _ n W _ ?_)
        have hlt := lt2 hl
        have hdt := lt2 hk
        refine ⟨_, run_beginRound hl (by rw [hrec]), ?_⟩
        obtain ⟨W2, hW2⟩ : ∃ W2, W.putObj (D + 1) (.loop { rec .ready none with state := .busy }) = W2 := ⟨_, rfl⟩
        rw [hW2]
        have K2 : Kps S W W2 := by rw [← hW2]; exact Kps.put _ ((hR _).2 (Or.inr (Or.inr rfl)))
        have z2 : W2.heap.size = W.heap.size := by rw [← hW2]; simp
        have hl2 : W2.heap[D + 1]? = some (.loop { rec .ready none with state := .busy }) := by rw [← hW2]; exact World.putObj_heap_same hlt
        have hk2 : W2.heap[D]? = some (.deferred (some [])) := by rw [← hW2]; exact (World.putObj_heap_other (by omega)).trans hk
        have hi2 : I x R W2 := hI.on _ _ _ _ hi (K2.below (fun k hk' => (FJ.lt x S W ⟨R, hR, r1, r2, hi, hl, hk⟩ k hk').1) (by omega)) (fun k hk' => by rw [← hW2]; exact World.putObj_heap_other (fun e => r2 (e ▸ hk')))
        refine wpIn_mono (hbody _ x R n W2 hi2 (by omega) hE) ?_
        have fin : ∀ (jump : Option Code) (y : σ) (R' : Nat → Prop) (W3 : World), Gr R W2 R' → Kps R W2 W3 →
            (Instr.endRound (D + 1) jump).run P W3 = .ok (.bool jump.isNone) (W3.putObj (D + 1) (.loop (rec (if jump.isNone then .ready else .done) jump))) ∧
            (W3.putObj (D + 1) (.loop (rec (if jump.isNone then .ready else .done) jump))).heap[D + 1]? = some (.loop (rec (if jump.isNone then .ready else .done) jump)) ∧
            (W3.putObj (D + 1) (.loop (rec (if jump.isNone then .ready else .done) jump))).heap[D]? = some (.deferred (some [])) ∧ ¬ R' D ∧ ¬ R' (D + 1) ∧ Gr S W (fun k => R' k ∨ k = D ∨ k = D + 1) ∧ Kps S W (W3.putObj (D + 1) (.loop (rec (if jump.isNone then .ready else .done) jump))) ∧
            Below n0 W3 (W3.putObj (D + 1) (.loop (rec (if jump.isNone then .ready else .done) jump))) ∧ (∀ k, R' k → (W3.putObj (D + 1) (.loop (rec (if jump.isNone then .ready else .done) jump))).heap[k]? = W3.heap[k]?) := fun jump y R' W3 g3 k3 => by
          have hl3 := (k3.block _ (lt2 hl2) r2).trans hl2
          have hk3 := (k3.block _ (lt2 hk2) r1).trans hk2
          have r3 : ¬ R' D := fun q => by
            rcases g3 _ q with z | z
            · exact r1 z
            · omega
          have r4 : ¬ R' (D + 1) := fun q => by
            rcases g3 _ q with z | z
            · exact r2 z
            · omega
          have e3 := run_endRound (P := P) jump hl3
          refine ⟨?_, World.putObj_heap_same (lt2 hl3), (World.putObj_heap_other (by omega)).trans hk3, r3, r4, ?_, ?_, ?_, ?_⟩
          · rw [hrec] at e3 ⊢; exact e3
          · rintro k (q | rfl | rfl)
            · rcases g3 _ q with z | z
              · exact Or.inl ((hR _).2 (Or.inl z))
              · exact Or.inr (by omega)
            · exact Or.inl ((hR _).2 (Or.inr (Or.inl rfl)))
            · exact Or.inl ((hR _).2 (Or.inr (Or.inr rfl)))
          · have kA : Kps S W W3 := K2.trans k3 (fun k q => Or.inl ((hR _).2 (Or.inl q)))
            exact kA.trans (Kps.put (S := S) _ ((hR _).2 (Or.inr (Or.inr rfl)))) (Gr.refl _ _)
          · exact (Kps.put (S := fun k => k = D + 1) _ rfl).below (fun k e => by omega) (by have := k3.size; omega)
          · exact fun k q => World.putObj_heap_other (fun e => r4 (e ▸ q))
        rintro e a3 W3 hp
        cases e with
        | normal =>
          obtain ⟨y, R', e1, g3, k3, hi3⟩ := hp
          obtain ⟨q1, q2, q3, q4, q5, q6, q7, q8, q9⟩ := fin none y R' W3 g3 k3
          refine ⟨_, _, q1, ?_⟩
          rw [e1]
          exact ⟨rfl, _, q6, q7, Or.inl ⟨rfl, R', fun k => Iff.rfl, q4, q5, hI.on _ _ _ _ hi3 q8 q9, q2, q3⟩⟩
        | ret =>
          obtain ⟨y, R', e1, g3, k3, hi3⟩ := hp
          obtain ⟨q1, q2, q3, q4, q5, q6, q7, q8, q9⟩ := fin (some .ret) y R' W3 g3 k3
          refine ⟨_, _, q1, ?_⟩
          rw [e1]
          exact ⟨rfl, _, q6, q7, Or.inr ⟨rfl, R', _, fun k => Iff.rfl, q4, q5, (hIx _).on _ _ _ _ hi3 q8 q9, q2, q3⟩⟩
        | exit id =>
          obtain ⟨y, R', e1, g3, k3, hi3⟩ := hp
          obtain ⟨q1, q2, q3, q4, q5, q6, q7, q8, q9⟩ := fin (some (.exit id)) y R' W3 g3 k3
          refine ⟨_, _, q1, ?_⟩
          rw [e1]
          exact ⟨rfl, _, q6, q7, Or.inr ⟨rfl, R', _, fun k => Iff.rfl, q4, q5, (hIx _).on _ _ _ _ hi3 q8 q9, q2, q3⟩⟩
        | goto t =>
          obtain ⟨y, R', e1, g3, k3, hi3⟩ := hp
          obtain ⟨q1, q2, q3, q4, q5, q6, q7, q8, q9⟩ := fin (some (.goto t)) y R' W3 g3 k3
          refine ⟨_, _, q1, ?_⟩
          rw [e1]
          exact ⟨rfl, _, q6, q7, Or.inr ⟨rfl, R', _, fun k => Iff.rfl, q4, q5, (hIx _).on _ _ _ _ hi3 q8 q9, q2, q3⟩⟩
        | panic ch => exact hp.elim
        | outgrown => exact hp.elim
      exact ⟨hround.1, fun c cs _ => hround.2 c cs (by intro d hd; cases hd)⟩
    · intro k hk
      obtain ⟨t1, t2, t3, t4⟩ := hT k hk
      have t5 : k < D := by have := hb0.size; omega
      exact ⟨t1, t2, fun q => (by rcases q with q | e | e; exact t3 q; all_goals omega), (hB1.block k t5).trans t4⟩
    · rintro e W2 ⟨⟨v, rfl⟩, S', g', k', ho⟩
      have kk : ∀ (W3 : World) (o : Obj), W3 = W2.putObj (D + 1) o → Kps (fun k => S0 k ∨ T k) w W3 := fun W3 o e3 => by
        subst e3
        refine ⟨k'.os.trans hB1.os, k'.tape.trans hB1.tape, k'.output.trans hB1.output, ?_, fun k hk hS => ?_⟩
        · have h1 := hB1.size
          have h2 := k'.size
          simp only [World.putObj_size]
          omega
        · have hk' : k < D := by omega
          refine (World.putObj_heap_other (by omega)).trans (((k'.block k (by have := hB1.size; omega) ?_)).trans (hB1.block k hk'))
          rintro ((q | rfl | rfl) | q)
          · exact hS (Or.inl q)
          · omega
          · omega
          · exact hS (Or.inr q)
      have gg : ∀ R : Nat → Prop, (∀ k, S' k ↔ (R k ∨ k = D ∨ k = D + 1)) → Gr S0 w R := fun R hR k hk => by
        rcases g' k ((hR k).2 (Or.inl hk)) with (q | rfl | rfl) | q
        · exact Or.inl q
        · exact Or.inr (by omega)
        · exact Or.inr (by omega)
        · exact Or.inr (by have := hB1.size; omega)
      rcases ho with ⟨hr, R, hR, r1, r2, hi, hl, hd⟩ | ⟨hr, R, c, hR, r1, r2, hi, hl, hd⟩
      · have e4 := run_endLoop (P := P) hl (by rw [hrec]; simp)
        have q8 : ∀ o, Below n0 W2 (W2.putObj (D + 1) o) := fun o => (Kps.put (S := fun k => k = D + 1) _ rfl).below (fun k e => by omega) (by have := lt2 hl; omega)
        have q9 : ∀ o k, R k → (W2.putObj (D + 1) o).heap[k]? = W2.heap[k]? := fun o k q => World.putObj_heap_other (fun e => r2 (e ▸ q))
        rw [show (rec .ready none).pending = none by rw [hrec]] at e4
        refine ⟨none, _, e4, ?_⟩
        exact hdone D (run f x0 xs).1 R _ (by omega) r1 (by rw [← hr]) (hI.on _ _ _ _ hi (q8 _) (q9 _)) (gg R hR) (kk _ _ rfl) ((World.putObj_heap_other (by omega)).trans hd)
      · have e4 := run_endLoop (P := P) hl (by rw [hrec]; simp)
        have q8 : ∀ o, Below n0 W2 (W2.putObj (D + 1) o) := fun o => (Kps.put (S := fun k => k = D + 1) _ rfl).below (fun k e => by omega) (by have := lt2 hl; omega)
        have q9 : ∀ o k, R k → (W2.putObj (D + 1) o).heap[k]? = W2.heap[k]? := fun o k q => World.putObj_heap_other (fun e => r2 (e ▸ q))
        rw [show (rec .done (some c)).pending = some c by rw [hrec]] at e4
        refine ⟨some c, _, e4, ?_⟩
        exact hstop D c (run f x0 xs).1 R _ (by omega) r1 (by rw [← hr]) ((hIx c).on _ _ _ _ hi (q8 _) (q9 _)) (gg R hR) (kk _ _ rfl) ((World.putObj_heap_other (by omega)).trans hd)
theorem rf_law {P : Program} {g : Operand} {ps : Array Tmp} {assign body : Code} {Q : Exit → Act → World → Prop} {a : Act} {w : World} {m : Nat}
    {gf : Nat} {lb : Array Value} (hg : a.eval g = .func (.func gf) #[] lb) (eg : ∀ args w, (callFunc gf args).run P w = .ok (.enter gf args) w)
    {n0 : Nat} {w0 : World} {T : Nat → Prop} {xs : List Int} (hseq : Itr P gf lb xs n0 w0 T) (hb0 : Below n0 w0 w) (hn0 : n0 ≤ w0.heap.size)
    (f : σ → Int → σ × Bool) (I : σ → (Nat → Prop) → World → Prop) (Ix : Code → σ → (Nat → Prop) → World → Prop) (hI : Frm n0 I) (hIx : ∀ c, Frm n0 (Ix c)) (x0 : σ) (S0 : Nat → Prop) (h0 : I x0 S0 w)
    (hT : ∀ k, T k → k < w0.heap.size ∧ n0 ≤ k ∧ ¬ S0 k ∧ w.heap[k]? = w0.heap[k]?) (hps : ps.size = 1) (a₁ : Int → Act)
    (hassign : ∀ (l : Nat) (n : Int) (W : World) (K : Act → World → Prop), K (a₁ n) W →
      assign.wpIn (Fence.wide.inRound l) m P (Exit.then K (fun _ _ _ => False)) { tmps := (ps.zip #[.int .i64 n]).foldl (fun t (p, v) => t.setIfInBounds p v) a.tmps, defers := [] } W)
    (hbody : ∀ (l : Nat) (x : σ) (S : Nat → Prop) (n : Int) (W : World), I x S W → n0 ≤ W.heap.size → body.wpIn (Fence.wide.inRound l) m P (bPost f I Ix x S n W) (a₁ n) W)
    (hdone : ∀ (D : Nat) (x : σ) (S : Nat → Prop) (W : World), w.heap.size ≤ D → ¬ S D → run f x0 xs = (x, true) → I x S W → Gr S0 w S → Kps (fun k => S0 k ∨ T k) w W → W.heap[D]? = some (.deferred (some [])) →
      Q .normal { a with defers := { target := .collected D, args := #[] } :: a.defers } W)
    (hstop : ∀ (D : Nat) (c : Code) (x : σ) (S : Nat → Prop) (W : World), w.heap.size ≤ D → ¬ S D → run f x0 xs = (x, false) → Ix c x S W → Gr S0 w S → Kps (fun k => S0 k ∨ T k) w W → W.heap[D]? = some (.deferred (some [])) →
      c.wpIn Fence.wide m P Q { a with defers := { target := .collected D, args := #[] } :: a.defers } W) :
    (Code.rangeFunc g ps assign body).wpIn Fence.wide m P Q a w :=
  rf_law2 hg eg hseq hb0 hn0 f I Ix hI hIx x0 S0 h0 hT hps a₁ hassign (fun l x S n W h1 h2 _ => hbody l x S n W h1 h2) hdone hstop
end Go.Proofs.YthdohcjingfpoaaGreatDoor
namespace Go.Proofs.YthdohcjingfpoaaGreatDoor
open Go.RowKit Go.Shelf Cal Txt
attribute [local go_sem] Oper.semAt_some

/-- A rule's box, as a block. -/
def RlB (W : World) (b : Nat) (r : Rl) (am ad aw ap : Option Addr) (cm cd cw cp : Nat) : Prop := W.heap[b]? = some (.cells #[.int .i64 r.freq, .int .i64 r.every, .int .i64 r.count, .int .i64 r.till, .slice am r.months.length cm, .slice ad r.days.length cd, .slice aw r.weeks.length cw, .slice ap r.pick.length cp] 37)
theorem RlB.box {W : World} {b : Nat} {r : Rl} {am ad aw ap : Option Addr} {cm cd cw cp : Nat} (h : RlB W b r am ad aw ap cm cd cw cp) : RBox W b r.freq r.every r.count r.till (.slice am r.months.length cm) (.slice ad r.days.length cd) (.slice aw r.weeks.length cw) (.slice ap r.pick.length cp) := by
  unfold RlB at h
  exact ⟨by simp [World.cell?, h], by simp [World.cell?, h], by simp [World.cell?, h], by simp [World.cell?, h], by simp [World.cell?, h], by simp [World.cell?, h], by simp [World.cell?, h], by simp [World.cell?, h]⟩
theorem RlB.new (W : World) (r : Rl) (am ad aw ap : Option Addr) (cm cd cw cp : Nat) : RlB (W.alloc (.cells #[.int .i64 r.freq, .int .i64 r.every, .int .i64 r.count, .int .i64 r.till, .slice am r.months.length cm, .slice ad r.days.length cd, .slice aw r.weeks.length cw, .slice ap r.pick.length cp] 37)) W.heap.size r am ad aw ap cm cd cw cp := World.alloc_heap_new W _
/-- What lies below n0: the tables, the lists of a rule. -/
def Env (n0 : Nat) (w0 : World) (v : Value) (r : Rl) : Prop := n0 ≤ w0.heap.size ∧ ∀ W, Below n0 w0 W → RuleIn W v r ∧ Tab W
theorem Env.on {n0 : Nat} {w0 w1 : World} {v : Value} {r : Rl} (h : Env n0 w0 v r) (q : Below n0 w0 w1) : Env n0 w1 v r := ⟨Nat.le_trans h.1 q.size, fun W p => h.2 W (q.trans p)⟩
theorem Env.of {w : World} {v : Value} {r : Rl} (h : RuleIn w v r) (hT : Tab w) : Env w.heap.size w v r := ⟨Nat.le_refl _, fun _ q => ⟨h.on q, hT.below q⟩⟩
/-- A cell's number, for a measure. -/
def numAt (W : World) (b : Nat) : Int := intOf ((W.cell? ⟨b, 0, none⟩).getD undef)
theorem bxd_same {W W' : World} {b : Nat} {t : TypeId} {v : Value} (h : Boxed W b t v) (q : W'.heap[b]? = W.heap[b]?) : Boxed W' b t v := q.trans h
set_option maxRecDepth 100000 in
set_option maxHeartbeats 4000000 in
theorem ofP_itr (r : Rl) (am ad aw ap : Option Addr) (cm cd cw cp : Nat) (s k t : Int) (n0 : Nat) (w0 : World) (kB rB sB tB : Nat) (hE : Env n0 w0 (.agg #[.int .i64 r.freq, .int .i64 r.every, .int .i64 r.count, .int .i64 r.till, .slice am r.months.length cm, .slice ad r.days.length cd, .slice aw r.weeks.length cw, .slice ap r.pick.length cp]) r) (hk : Boxed w0 kB 3 (.int .i64 k)) (hr : RlB w0 rB r am ad aw ap cm cd cw cp) (hs : Boxed w0 sB 3 (.int .i64 s)) (ht : Boxed w0 tB 3 (.int .i64 t))
    (d1 : rB ≠ kB) (d2 : sB ≠ kB) (d3 : tB ≠ kB) :
    Itr Tryz.prog 275 #[.pointer (some ⟨kB, 0, none⟩), .pointer (some ⟨rB, 0, none⟩), .pointer (some ⟨sB, 0, none⟩), .pointer (some ⟨tB, 0, none⟩)] (flat r s t k) n0 w0 (fun b => b = kB ∨ b = rB ∨ b = sB ∨ b = tB) := by
  intro σ f J JX l x S W FJ FX hY hJ hB hn hT
  refine (callsIn_wide (n := 3)).1 ?_
  refine callsIn_of_wp Tryz.func275 rfl trivial ?_ rfl
  simp only [Tryz.ntmps275, List.size_toArray, List.length_cons, List.length_nil, Nat.reduceAdd, Nat.reduceSub, Array.replicate_succ, Array.replicate_zero, List.push_toArray, List.append_toArray, List.nil_append, List.cons_append]
  gi_wp2
  gi_loopw [6] (fun _ wr => ∃ (k' : Int) (y : σ) (S' : Nat → Prop), Boxed wr kB 3 (.int .i64 k') ∧ RlB wr rB r am ad aw ap cm cd cw cp ∧ Boxed wr sB 3 (.int .i64 s) ∧ Boxed wr tB 3 (.int .i64 t) ∧ J y S' wr ∧ run f x (flat r s t k) = run f y (flat r s t k') ∧ Gr S W S' ∧ Kps (fun b => S b ∨ (b = kB ∨ b = rB ∨ b = sB ∨ b = tB)) W wr)
    (fun _ wr => (109574 - numAt wr kB).toNat)
  case atStart =>
    have hw : ∀ b, (b = kB ∨ b = rB ∨ b = sB ∨ b = tB) → W.heap[b]? = w0.heap[b]? := fun b hb => (hT b hb).2.2.2
    exact ⟨k, x, S, bxd_same hk (hw _ (Or.inl rfl)), (hw _ (Or.inr (Or.inl rfl))).trans hr, bxd_same hs (hw _ (Or.inr (Or.inr (Or.inl rfl)))), bxd_same ht (hw _ (Or.inr (Or.inr (Or.inr rfl)))), hJ, rfl, Gr.refl _ _, Kps.refl _ _⟩
  case round =>
    obtain ⟨k', y, S', b1, b2, b3, b4, hj, hrun, hg, hkp⟩ := hrel
    have hnW : n0 ≤ W.heap.size := Nat.le_trans hn hB.size
    have HN := Lib.hid (fun b (q : b = kB ∨ b = rB ∨ b = sB ∨ b = tB) => (⟨Nat.lt_of_lt_of_le (hT b q).1 hB.size, (hT b q).2.1, (hT b q).2.2.1⟩ : b < W.heap.size ∧ n0 ≤ b ∧ ¬ S b))
    have HK := Lib.hid (fun X (q : Kps (fun b => S b ∨ (b = kB ∨ b = rB ∨ b = sB ∨ b = tB)) W X) => hB.trans (q.below (fun b hb => hb.elim (fun q => (FJ.lt _ _ _ hJ b q).1) (fun q => (hT b q).2.1)) hnW))
    have HE := Lib.hid (fun X (q : Below n0 w0 X) => hE.2 X q)
    have HY := Lib.hid hY
    have HR := Lib.hid hrun
    have M0 : Hid (numAt wr kB = k') := Lib.hid (by unfold numAt; rw [b1.cell]; rfl)
    have hnr : n0 ≤ wr.heap.size := Nat.le_trans hnW hkp.size
    have KB := Lib.hid (begin_any r _ s k' wr (HE.out _ (HK.out _ hkp)).1 (HE.out _ (HK.out _ hkp)).2)
    clear hE hk hr hs ht hB hT hY hrun hn
    have G1 := Lib.hid (fun X (q : Below wr.heap.size wr X) => (⟨bxd_same b1 (q.block _ b1.lt), (q.block _ (Array.getElem?_eq_some_iff.1 b2).1).trans b2, bxd_same b3 (q.block _ b3.lt), bxd_same b4 (q.block _ b4.lt), FJ.on _ _ _ _ hj (q.mono hnr) (fun b hb => q.block b (FJ.lt _ _ _ hj b hb).2), hkp.trans (Kps.of_below (S := fun _ => False) q) (fun _ e => e.elim)⟩ :
      Boxed X kB 3 (.int .i64 k') ∧ RlB X rB r am ad aw ap cm cd cw cp ∧ Boxed X sB 3 (.int .i64 s) ∧ Boxed X tB 3 (.int .i64 t) ∧ J y S' X ∧ Kps (fun b => S b ∨ (b = kB ∨ b = rB ∨ b = sB ∨ b = tB)) W X))
    have c1 := b1.cell
    have c3 := b3.cell
    obtain ⟨q0, q1, q2, q3, q4, q5, q6, q7⟩ := b2.box
    have LJ := Lib.hid (FJ.lt _ _ _ hj)
    clear b1 b2 b3 b4 hj
    gi_wp2_with fail
    clear c1 c3 q0 q1 q2 q3 q4 q5 q6 q7
    refine ⟨trivial, (callsIn_wide.2 KB.out).mono ?_⟩
    rintro e w1 ⟨rfl, hb⟩
    obtain ⟨b1, b2, b3, b4, hj, hkp1⟩ := G1.out _ hb
    have HB1 := Lib.hid hb
    have zs1 : wr.heap.size ≤ w1.heap.size := hb.size
    clear G1 KB hb hkp
    rcases hq : pE r s k' with _ | ⟨a, b⟩
    · have FN := Lib.hid (flat_none (t := t) hq)
      clear hq b1 b2 b3 b4
      simp only [BegA]
      gi_wp2
      refine bodyPost_ret (results_none rfl _ _ _) rfl ?_
      exact ⟨⟨_, rfl⟩, S', hg, hkp1, by rw [HR.out, FN.out, run_nil]; exact Or.inl ⟨rfl, hj⟩⟩
    have c4 := b4.cell
    simp only [BegA]
    by_cases hta : t < a
    · have FN := Lib.hid (flat_far (t := t) hq hta)
      clear hq b1 b2 b3 b4
      gi_wp2
      refine bodyPost_ret (results_none rfl _ _ _) rfl ?_
      exact ⟨⟨_, rfl⟩, S', hg, hkp1, by rw [HR.out, FN.out, run_nil]; exact Or.inl ⟨rfl, hj⟩⟩
    have FO := Lib.hid (flat_on (t := t) hq (by omega))
    have hkb := (pE_some hq).2.1
    have LD : Hid ((perD r s a b).length ≤ 1000) := Lib.hid (by
      have l1 := (pick_sub r.pick (allD r s a b)).length_le
      have l2 := List.length_filter_le (askB (comp r s)) (rng a (b + 1 - a).toNat)
      have l3 : (rng a (b + 1 - a).toNat).length = (b + 1 - a).toNat := by unfold rng; rw [List.length_map, List.length_range]
      have l4 := pE_len hq
      unfold perD
      unfold allD at l1 ⊢
      omega)
    have KD := Lib.hid (perDays_new r _ s k' w1 (HE.out _ (HK.out _ hkp1)).1 (HE.out _ (HK.out _ hkp1)).2)
    rw [show pD r s k' = some (perD r s a b) by unfold pD; rw [hq]] at KD
    clear hq
    generalize hds : perD r s a b = ds at KD LD FO
    clear hds
    have G1 := Lib.hid (fun X (q : Below w1.heap.size w1 X) => (⟨bxd_same b1 (q.block _ b1.lt), (q.block _ (Array.getElem?_eq_some_iff.1 b2).1).trans b2, bxd_same b3 (q.block _ b3.lt), bxd_same b4 (q.block _ b4.lt), FJ.on _ _ _ _ hj (q.mono (Nat.le_trans hnr zs1)) (fun b hb => q.block b (FJ.lt _ _ _ hj b hb).2), hkp1.trans (Kps.of_below (S := fun _ => False) q) (fun _ e => e.elim)⟩ :
      Boxed X kB 3 (.int .i64 k') ∧ RlB X rB r am ad aw ap cm cd cw cp ∧ Boxed X sB 3 (.int .i64 s) ∧ Boxed X tB 3 (.int .i64 t) ∧ J y S' X ∧ Kps (fun b => S b ∨ (b = kB ∨ b = rB ∨ b = sB ∨ b = tB)) W X))
    have c1 := b1.cell
    have c3 := b3.cell
    obtain ⟨q0, q1, q2, q3, q4, q5, q6, q7⟩ := b2.box
    clear b1 b2 b3 b4 hj
    gi_wp2_with fail
    clear c1 c3 c4 q0 q1 q2 q3 q4 q5 q6 q7
    refine ⟨trivial, (callsIn_wide.2 KD.out).mono ?_⟩
    rintro e w2 ⟨hb, ⟨h0, _⟩ | ⟨l', v', h0, rfl, hI, hF⟩⟩
    · cases h0
    obtain rfl : ds = l' := by injection h0
    obtain ⟨b1, b2, b3, b4, hj, hkp2⟩ := G1.out _ hb
    have zs2 : w1.heap.size ≤ w2.heap.size := hb.size
    clear G1 KD hb h0 hkp1
    have HI := Lib.hid hI
    have HF := Lib.hid hF
    obtain ⟨av, cv, rfl, _⟩ := hI
    clear hF
    gi_wp2_with fail
    gi_loopw [38] (fun i wq => ∃ (j : Nat) (y' : σ) (S2 : Nat → Prop), i = .int .i64 j ∧ j ≤ ds.length ∧ Boxed wq kB 3 (.int .i64 k') ∧ RlB wq rB r am ad aw ap cm cd cw cp ∧ Boxed wq sB 3 (.int .i64 s) ∧ Boxed wq tB 3 (.int .i64 t) ∧ J y' S2 wq ∧
        run f x (flat r s t k) = run f y' (ds.drop j ++ flat r s t (k' + 1)) ∧ Gr S W S2 ∧ Gr S' w2 S2 ∧ Kps (fun b => S b ∨ (b = kB ∨ b = rB ∨ b = sB ∨ b = tB)) W wq ∧ Ints wq (.slice av ds.length cv) ds ∧ w2.heap.size ≤ wq.heap.size)
      (fun i _ => ds.length - (intOf i).toNat)
    case atStart => exact ⟨0, y, S', by simp, Nat.zero_le _, b1, b2, b3, b4, hj, by rw [HR.out, FO.out]; rfl, hg, Gr.refl _ _, hkp2, HI.out, Nat.le_refl _⟩
    case round =>
      clear b1 b2 b3 b4 hj hkp2
      obtain ⟨j, y', S2, rfl, hjl, b1, b2, b3, b4, hj, hrun2, hgA, hgB, hkp3, hI3, zs3⟩ := hrel
      have HR2 := Lib.hid hrun2
      have G2 := Lib.hid b2
      clear hrun2 b2
      have ld := LD.out
      by_cases hlt : j < ds.length
      · obtain ⟨av', cv', e', hc⟩ := id hI3
        obtain ⟨rfl, rfl⟩ : av = av' ∧ cv = cv' := by simpa using e'
        rcases hc with hc | ⟨g, off, rfl, hc⟩
        · rw [hc] at hlt; simp at hlt
        have k1 := hc j hlt
        obtain ⟨n, hn⟩ : ∃ n, n = ds.getD j 0 := ⟨_, rfl⟩
        rw [← hn] at k1
        have gF : w1.heap.size ≤ g := HF.out g rfl
        have g2 : g < w2.heap.size := by
          obtain ⟨a2, c2, e2, h2⟩ := HI.out
          rcases h2 with h2 | ⟨g', off', h3, h4⟩
          · rw [h2] at hlt; simp at hlt
          · have h5 := cell_in (h4 j hlt)
            obtain ⟨rfl, _⟩ : some (⟨g, off, none⟩ : Addr) = a2 ∧ cv = c2 := by simpa using e2
            cases h3
            exact h5
        have gS : ¬ S2 g := fun q => by
          rcases hgB g q with z | z
          · have := (LJ.out g z).2; omega
          · omega
        have DR : Hid (ds.drop j = n :: ds.drop (j + 1)) := Lib.hid (by rw [List.drop_eq_getElem_cons hlt, hn, List.getD_eq_getElem?_getD, List.getElem?_eq_getElem hlt]; rfl)
        obtain ⟨fn, tmps, assign, body, hy, hR⟩ := HY.out y' S2 wr n (3 - 1) hj ⟨ds.drop (j + 1) ++ flat r s t (k' + 1), by rw [HR2.out, DR.out]; rfl⟩
        have NT := Lib.hid (fun b (q : b = kB ∨ b = rB ∨ b = sB ∨ b = tB) => fun (z : S2 b) => (hgA b z).elim (HN.out b q).2.2 (fun u => absurd (HN.out b q).1 (Nat.not_lt.2 u)))
        have KI : Hid (∀ X, Kps S2 wr X → Ints X (.slice (some ⟨g, off, none⟩) ds.length cv) ds) := Lib.hid (fun X q => ⟨some ⟨g, off, none⟩, cv, rfl, Or.inr ⟨g, off, rfl, fun i hi => (World.cell?_of_block (q.block g (by omega) gS)).trans (hc i hi)⟩⟩)
        have KX : Hid (∀ X, Kps S2 wr X → Boxed X kB 3 (.int .i64 k') ∧ RlB X rB r am ad aw ap cm cd cw cp ∧ Boxed X sB 3 (.int .i64 s) ∧ Boxed X tB 3 (.int .i64 t) ∧ Kps (fun b => S b ∨ (b = kB ∨ b = rB ∨ b = sB ∨ b = tB)) W X) :=
          Lib.hid (fun X q => ⟨bxd_same b1 (q.block _ b1.lt (NT.out _ (Or.inl rfl))), (q.block _ (Array.getElem?_eq_some_iff.1 G2.out).1 (NT.out _ (Or.inr (Or.inl rfl)))).trans G2.out, bxd_same b3 (q.block _ b3.lt (NT.out _ (Or.inr (Or.inr (Or.inl rfl))))), bxd_same b4 (q.block _ b4.lt (NT.out _ (Or.inr (Or.inr (Or.inr rfl))))),
            hkp3.trans q (fun b z => (hgA b z).imp Or.inl id)⟩)
        clear e' hc hn gS g2 gF b1 b3 b4 hI3 NT
        rcases hf : f y' n with ⟨y2, _ | _⟩
        · rw [hf] at hR
          have RN : Hid (run f x (flat r s t k) = (y2, false)) := Lib.hid (by rw [HR2.out, DR.out, List.cons_append, run_no hf])
          clear hf
          gi_wp2
          clear k1
          refine hR.mono ?_
          rintro e W3 ⟨rfl, S3, g3, k3, ho⟩
          obtain ⟨b1, b2, b3, b4, k4⟩ := KX.out _ k3
          have hX : JX y2 S3 W3 := by
            rcases ho with ⟨u, _⟩ | ⟨_, u⟩
            · cases u
            · exact u
          have GA := Lib.hid (hgA.trans g3 hkp3.size)
          have ZZ := Lib.hid (show (∃ S', Gr S W S' ∧ Kps (fun k => S k ∨ k = kB ∨ k = rB ∨ k = sB ∨ k = tB) W W3 ∧ Out J JX (run f x (flat r s t k)) S' W3) from ⟨S3, GA.out, k4, by rw [RN.out]; exact Or.inr ⟨rfl, hX⟩⟩)
          clear b1 b2 b3 b4 k4 k3 g3 ho hX KI KX hkp3 hgA hgB hj hy hR
          gi_wp2
          refine bodyPost_ret (results_none rfl _ _ _) rfl ?_
          exact ⟨⟨_, rfl⟩, ZZ.out⟩
        · rw [hf] at hR
          have RN : Hid (run f x (flat r s t k) = run f y2 (ds.drop (j + 1) ++ flat r s t (k' + 1))) := Lib.hid (by rw [HR2.out, DR.out, List.cons_append, run_yes hf])
          clear hf
          gi_wp2
          clear k1
          refine hR.mono ?_
          rintro e W3 ⟨rfl, S3, g3, k3, ho⟩
          obtain ⟨b1, b2, b3, b4, k4⟩ := KX.out _ k3
          have hX : J y2 S3 W3 := by
            rcases ho with ⟨_, u⟩ | ⟨u, _⟩
            · exact u
            · cases u
          have GA := Lib.hid (hgA.trans g3 hkp3.size)
          have GB := Lib.hid (hgB.trans g3 zs3)
          have ZI := Lib.hid (KI.out _ k3)
          have z4 : w2.heap.size ≤ W3.heap.size := Nat.le_trans zs3 k3.size
          have Z1 := Lib.hid b1
          have Z2 := Lib.hid b2
          have Z3 := Lib.hid b3
          have Z4 := Lib.hid b4
          have Z5 := Lib.hid k4
          have Z6 := Lib.hid hX
          clear b1 b2 b3 b4 k4 k3 g3 ho hX KI KX hkp3 hgA hgB hj hy hR
          gi_wp2
          go_roundw
          case rel => exact ⟨j + 1, y2, S3, by go_num, by omega, Z1.out, Z2.out, Z3.out, Z4.out, Z6.out, RN.out, GA.out, GB.out, Z5.out, ZI.out, z4⟩
          case measure => simp [intOf]; omega
      · have RN : Hid (run f x (flat r s t k) = run f y' (flat r s t (k' + 1))) := Lib.hid (by rw [HR2.out, List.drop_eq_nil_of_le (by omega), List.nil_append])
        have c1 := b1.cell
        have f1 := b1.frozen
        have NK : ¬ S2 kB := fun z => (hgA kB z).elim (HN.out kB (Or.inl rfl)).2.2 (fun u => absurd (HN.out kB (Or.inl rfl)).1 (Nat.not_lt.2 u))
        have ne : ∀ {b : Nat}, b ≠ kB → (wr.setCell ⟨kB, 0, none⟩ (.int .i64 (k' + 1))).heap[b]? = wr.heap[b]? := fun h => Below.heap_setCell _ _ _ _ h
        have KS : Kps (fun b => b = kB) wr (wr.setCell ⟨kB, 0, none⟩ (.int .i64 (k' + 1))) := Kps.set _ rfl
        have Z1 := Lib.hid (b1.set (.int .i64 (k' + 1)))
        have Z2 : Hid (RlB (wr.setCell ⟨kB, 0, none⟩ (.int .i64 (k' + 1))) rB r am ad aw ap cm cd cw cp) := Lib.hid ((ne d1).trans G2.out)
        have Z3 := Lib.hid (bxd_same b3 (ne d2))
        have Z4 := Lib.hid (bxd_same b4 (ne d3))
        have Z5 := Lib.hid (hkp3.trans KS (fun b z => Or.inl (Or.inr (Or.inl z))))
        have Z6 := Lib.hid (FJ.on _ _ _ _ hj (KS.below (n0 := n0) (fun b z => by rw [z]; exact (HN.out kB (Or.inl rfl)).2.1) (by omega)) (fun b z => ne (fun e => NK (e ▸ z))))
        have GA := Lib.hid hgA
        have ME : Hid (numAt (wr.setCell ⟨kB, 0, none⟩ (.int .i64 (k' + 1))) kB = k' + 1) := Lib.hid (by unfold numAt; rw [Z1.out.cell]; rfl)
        clear ne KS b1 b3 b4 hkp3 hj hgA hI3 hgB
        gi_wp2
        go_roundw
        case rel => exact ⟨k' + 1, y', S2, Z1.out, Z2.out, Z3.out, Z4.out, Z6.out, RN.out, GA.out, Z5.out⟩
        case measure => rw [ME.out, M0.out]; omega
end Go.Proofs.YthdohcjingfpoaaGreatDoor
namespace Go.Proofs.YthdohcjingfpoaaGreatDoor
open Go.RowKit Go.Shelf Cal Txt
attribute [local go_sem] Oper.semAt_some

/-- A rule and three numbers in four new blocks. -/
theorem four_new (w : World) (r : Rl) (am ad aw ap : Option Addr) (cm cd cw cp : Nat) (s k t : Int) : ∃ W, W = (((w.alloc (.cells #[.int .i64 r.freq, .int .i64 r.every, .int .i64 r.count, .int .i64 r.till, .slice am r.months.length cm, .slice ad r.days.length cd, .slice aw r.weeks.length cw, .slice ap r.pick.length cp] 37)).alloc (.cells #[.int .i64 s] 3)).alloc (.cells #[.int .i64 k] 3)).alloc (.cells #[.int .i64 t] 3) ∧ Below w.heap.size w W ∧ W.heap.size = w.heap.size + 4 ∧ RlB W w.heap.size r am ad aw ap cm cd cw cp ∧ Boxed W (w.heap.size + 1) 3 (.int .i64 s) ∧ Boxed W (w.heap.size + 2) 3 (.int .i64 k) ∧ Boxed W (w.heap.size + 3) 3 (.int .i64 t) := by
  refine ⟨_, rfl, ?_, by simp, ?_, ?_, ?_, ?_⟩
  · exact ((((Below.refl _ _).alloc (Nat.le_refl _) _).alloc (by simp) _).alloc (by simp; omega) _).alloc (by simp; omega) _
  · have h0 := RlB.new w r am ad aw ap cm cd cw cp
    unfold RlB at h0 ⊢
    rw [Below.heap_alloc _ _ _ (by simp; omega), Below.heap_alloc _ _ _ (by simp; omega), Below.heap_alloc _ _ _ (by simp), h0]
  · have h0 := Boxed.new (w.alloc (.cells #[.int .i64 r.freq, .int .i64 r.every, .int .i64 r.count, .int .i64 r.till, .slice am r.months.length cm, .slice ad r.days.length cd, .slice aw r.weeks.length cw, .slice ap r.pick.length cp] 37)) 3 (.int .i64 s)
    rw [World.size_alloc] at h0
    exact (h0.alloc _).alloc _
  · have h0 := Boxed.new ((w.alloc (.cells #[.int .i64 r.freq, .int .i64 r.every, .int .i64 r.count, .int .i64 r.till, .slice am r.months.length cm, .slice ad r.days.length cd, .slice aw r.weeks.length cw, .slice ap r.pick.length cp] 37)).alloc (.cells #[.int .i64 s] 3)) 3 (.int .i64 k)
    rw [World.size_alloc, World.size_alloc] at h0
    exact h0.alloc _
  · have h0 := Boxed.new (((w.alloc (.cells #[.int .i64 r.freq, .int .i64 r.every, .int .i64 r.count, .int .i64 r.till, .slice am r.months.length cm, .slice ad r.days.length cd, .slice aw r.weeks.length cw, .slice ap r.pick.length cp] 37)).alloc (.cells #[.int .i64 s] 3)).alloc (.cells #[.int .i64 k] 3)) 3 (.int .i64 t)
    rw [World.size_alloc, World.size_alloc, World.size_alloc] at h0
    exact h0
/-- A function that hands out numbers was made, in four new blocks. -/
def MadeA (P : Program) (w : World) (n0 : Nat) (g : Nat) (xs : List Int) (e : Ending) (w' : World) : Prop :=
  Below w.heap.size w w' ∧ w'.heap.size = w.heap.size + 4 ∧ ∃ lb, e = .returned (.func (.func g) #[] lb) ∧ Itr P g lb xs n0 w' (fun b => w.heap.size ≤ b ∧ b < w.heap.size + 4)
set_option maxRecDepth 100000 in
set_option maxHeartbeats 1000000 in
theorem ofPeriods_any (r : Rl) (am ad aw ap : Option Addr) (cm cd cw cp : Nat) (s k t : Int) (n0 : Nat) (w : World) (hE : Env n0 w (.agg #[.int .i64 r.freq, .int .i64 r.every, .int .i64 r.count, .int .i64 r.till, .slice am r.months.length cm, .slice ad r.days.length cd, .slice aw r.weeks.length cw, .slice ap r.pick.length cp]) r) :
    Calls Tryz.prog 272 #[(.agg #[.int .i64 r.freq, .int .i64 r.every, .int .i64 r.count, .int .i64 r.till, .slice am r.months.length cm, .slice ad r.days.length cd, .slice aw r.weeks.length cw, .slice ap r.pick.length cp]), .int .i64 s, .int .i64 k, .int .i64 t] w (MadeA Tryz.prog w n0 275 (flat r s t k)) := by
  obtain ⟨W, hW, hB, hz, h0, h1, h2, h3⟩ := four_new w r am ad aw ap cm cd cw cp s k t
  have IT := Lib.hid ((ofP_itr r am ad aw ap cm cd cw cp s k t n0 W (w.heap.size + 2) w.heap.size (w.heap.size + 1) (w.heap.size + 3) (hE.on (hB.mono hE.1)) h2 h0 h1 h3 (by omega) (by omega) (by omega)).more
    (T' := fun b => w.heap.size ≤ b ∧ b < w.heap.size + 4) (fun b hb => by omega))
  have HB := Lib.hid hB
  have HZ := Lib.hid hz
  have HW := Lib.hid hW
  clear hW hB hz h0 h1 h2 h3 hE
  go_enter Tryz.func272, Tryz.ntmps272
  go_wp2_with fail
  go_ret
  rw [← HW.out]
  exact ⟨HB.out, HZ.out, _, rfl, IT.out⟩
/-- Those behind a day alone. -/
def beh (s : Int) (l : List Int) : List Int := l.filter (fun n => decide (s < n))
def stB {σ : Type} (s : Int) (f : σ → Int → σ × Bool) (y : σ) (n : Int) : σ × Bool := if s < n then f y n else (y, true)
theorem run_beh {σ : Type} (s : Int) (f : σ → Int → σ × Bool) : ∀ (l : List Int) (y : σ), run (stB s f) y l = run f y (beh s l)
  | [], y => rfl
  | n :: l, y => by
    by_cases h : s < n
    · have e : beh s (n :: l) = n :: beh s l := by unfold beh; rw [List.filter_cons_of_pos (by simpa using h)]
      have e2 : stB s f y n = f y n := if_pos h
      rw [e]
      rcases hf : f y n with ⟨z, _ | _⟩
      · rw [run_no hf, run_no (e2.trans hf)]
      · rw [run_yes hf, run_yes (e2.trans hf)]; exact run_beh s f l z
    · have e : beh s (n :: l) = beh s l := by unfold beh; rw [List.filter_cons_of_neg (by simpa using h)]
      have e2 : stB s f y n = (y, true) := if_neg h
      rw [e, run_yes e2]; exact run_beh s f l y
set_option maxRecDepth 100000 in
set_option maxHeartbeats 4000000 in
theorem onF_itr (r : Rl) (am ad aw ap : Option Addr) (cm cd cw cp : Nat) (s k t : Int) (n0 : Nat) (w0 : World) (sB rB kB tB : Nat) (hE : Env n0 w0 (.agg #[.int .i64 r.freq, .int .i64 r.every, .int .i64 r.count, .int .i64 r.till, .slice am r.months.length cm, .slice ad r.days.length cd, .slice aw r.weeks.length cw, .slice ap r.pick.length cp]) r) (hs : Boxed w0 sB 3 (.int .i64 s)) (hr : RlB w0 rB r am ad aw ap cm cd cw cp) (hk : Boxed w0 kB 3 (.int .i64 k)) (ht : Boxed w0 tB 3 (.int .i64 t)) :
    Itr Tryz.prog 271 #[.pointer (some ⟨sB, 0, none⟩), .pointer (some ⟨rB, 0, none⟩), .pointer (some ⟨kB, 0, none⟩), .pointer (some ⟨tB, 0, none⟩)] (s :: beh s (flat r s t k)) n0 w0 (fun b => b = sB ∨ b = rB ∨ b = kB ∨ b = tB) := by
  intro σ f J JX l x S W FJ FX hY hJ hB hn hT
  have hnW : n0 ≤ W.heap.size := Nat.le_trans hn hB.size
  have HN := Lib.hid (fun b (q : b = sB ∨ b = rB ∨ b = kB ∨ b = tB) => (⟨Nat.lt_of_lt_of_le (hT b q).1 hB.size, (hT b q).2.1, (hT b q).2.2.1⟩ : b < W.heap.size ∧ n0 ≤ b ∧ ¬ S b))
  have hw : ∀ b, (b = sB ∨ b = rB ∨ b = kB ∨ b = tB) → W.heap[b]? = w0.heap[b]? := fun b hb => (hT b hb).2.2.2
  have b1 : Boxed W sB 3 (.int .i64 s) := bxd_same hs (hw _ (Or.inl rfl))
  have b2 : RlB W rB r am ad aw ap cm cd cw cp := (hw _ (Or.inr (Or.inl rfl))).trans hr
  have b3 : Boxed W kB 3 (.int .i64 k) := bxd_same hk (hw _ (Or.inr (Or.inr (Or.inl rfl))))
  have b4 : Boxed W tB 3 (.int .i64 t) := bxd_same ht (hw _ (Or.inr (Or.inr (Or.inr rfl))))
  have HE := Lib.hid (hE.on hB)
  have sB0 := hs.lt
  clear hw hT hs hr hk ht hE hB hn
  obtain ⟨W1, hW1⟩ : ∃ W1, W1 = W.alloc (.cells #[.func (.yield l) #[] #[]] 88) := ⟨_, rfl⟩
  have hB1 : Below W.heap.size W W1 := by rw [hW1]; exact (Below.refl _ _).alloc (Nat.le_refl _) _
  have y1 : Boxed W1 W.heap.size 88 (.func (.yield l) #[] #[]) := by rw [hW1]; exact Boxed.new _ _ _
  have J1 : J x S W1 := FJ.on _ _ _ _ hJ (hB1.mono hnW) (fun b hb => hB1.block b (FJ.lt _ _ _ hJ b hb).2)
  have LS := Lib.hid (fun b (hb : S b) => (FJ.lt _ _ _ hJ b hb).2)
  have z1 : W1.heap.size = W.heap.size + 1 := by rw [hW1]; simp
  have a1 : Boxed W1 sB 3 (.int .i64 s) := bxd_same b1 (hB1.block _ b1.lt)
  have a2 : RlB W1 rB r am ad aw ap cm cd cw cp := (hB1.block _ (HN.out rB (Or.inr (Or.inl rfl))).1).trans b2
  have a3 : Boxed W1 kB 3 (.int .i64 k) := bxd_same b3 (hB1.block _ b3.lt)
  have a4 : Boxed W1 tB 3 (.int .i64 t) := bxd_same b4 (hB1.block _ b4.lt)
  have HE1 := Lib.hid (HE.out.on (hB1.mono hnW))
  obtain ⟨fn, tmps, assign, body, hy, hR⟩ := hY x S W1 s (3 - 1) J1 ⟨_, rfl⟩
  have HY := Lib.hid hY
  have s1 := a1.cell
  have yc := y1.cell
  have HB1 := Lib.hid hB1
  have GA : Hid (∀ X S', Gr S W1 S' → Kps S W1 X → Boxed X sB 3 (.int .i64 s) ∧ RlB X rB r am ad aw ap cm cd cw cp ∧ Boxed X kB 3 (.int .i64 k) ∧ Boxed X tB 3 (.int .i64 t) ∧ Boxed X W.heap.size 88 (.func (.yield l) #[] #[]) ∧ Env n0 X (.agg #[.int .i64 r.freq, .int .i64 r.every, .int .i64 r.count, .int .i64 r.till, .slice am r.months.length cm, .slice ad r.days.length cd, .slice aw r.weeks.length cw, .slice ap r.pick.length cp]) r ∧ ¬ S' sB ∧ ¬ S' W.heap.size ∧ Gr S W S' ∧ Kps (fun b => S b ∨ (b = sB ∨ b = rB ∨ b = kB ∨ b = tB)) W X) := Lib.hid (fun X S' g q => by
    have nT : ∀ b, (b = sB ∨ b = rB ∨ b = kB ∨ b = tB) → ¬ S b := fun b hb => (HN.out b hb).2.2
    have nS : ¬ S W.heap.size := fun z => absurd (LS.out _ z) (Nat.lt_irrefl _)
    refine ⟨bxd_same a1 (q.block _ a1.lt (nT _ (Or.inl rfl))), (q.block _ (Array.getElem?_eq_some_iff.1 a2).1 (nT _ (Or.inr (Or.inl rfl)))).trans a2, bxd_same a3 (q.block _ a3.lt (nT _ (Or.inr (Or.inr (Or.inl rfl))))), bxd_same a4 (q.block _ a4.lt (nT _ (Or.inr (Or.inr (Or.inr rfl))))), bxd_same y1 (q.block _ y1.lt nS),
      HE1.out.on (q.below (fun b hb => (FJ.lt _ _ _ hJ b hb).1) (by omega)), ?_, ?_, ?_, ?_⟩
    · exact fun z => (g _ z).elim (nT _ (Or.inl rfl)) (fun u => by have := (HN.out sB (Or.inl rfl)).1; omega)
    · exact fun z => (g _ z).elim nS (fun u => by omega)
    · exact fun b z => (g b z).imp id (fun u => by omega)
    · exact (Kps.of_below (S := fun b => S b ∨ (b = sB ∨ b = rB ∨ b = kB ∨ b = tB)) HB1.out).trans q (fun b z => Or.inl (Or.inl z)))
  clear b1 b2 b3 b4 a1 a2 a3 a4 y1 hB1 HE hY
  refine (callsIn_wide (n := 3)).1 ?_
  refine callsIn_of_wp_marks Tryz.func271 rfl trivial ?_ rfl
  simp only [Tryz.ntmps271, List.size_toArray, List.length_cons, List.length_nil, Nat.reduceAdd, Nat.reduceSub, Array.replicate_succ, Array.replicate_zero, List.push_toArray, List.append_toArray, List.nil_append, List.cons_append]
  subst hW1
  rcases hf : f x s with ⟨y, _ | _⟩
  · rw [hf] at hR
    have RN : Hid (run f x (s :: beh s (flat r s t k)) = (y, false)) := Lib.hid (run_no hf _)
    clear hf
    gi_wp2
    refine hR.mono ?_
    clear s1 yc hy
    rintro e W2 ⟨rfl, S2, g2, k2, ho⟩
    obtain ⟨_, _, _, _, _, _, _, _, gW, kW⟩ := GA.out W2 S2 g2 k2
    have hX : JX y S2 W2 := by
      rcases ho with ⟨u, _⟩ | ⟨_, u⟩
      · cases u
      · exact u
    have ZZ := Lib.hid (show (∃ S', Gr S W S' ∧ Kps (fun b => S b ∨ (b = sB ∨ b = rB ∨ b = kB ∨ b = tB)) W W2 ∧ Out J JX (run f x (s :: beh s (flat r s t k))) S' W2) from ⟨S2, gW, kW, by rw [RN.out]; exact Or.inr ⟨rfl, hX⟩⟩)
    clear gW kW hX ho g2 k2 hR
    gi_wp2
    exact ⟨_, results_none rfl _ _ _, ⟨_, rfl⟩, ZZ.out⟩
  · rw [hf] at hR
    have RN : Hid (run f x (s :: beh s (flat r s t k)) = run (stB s f) y (flat r s t k)) := Lib.hid ((run_yes hf _).trans (run_beh s f _ y).symm)
    clear hf
    gi_wp2
    refine hR.mono ?_
    clear s1 yc hy
    rintro e W2 ⟨rfl, S2, g2, k2, ho⟩
    obtain ⟨e1, e2, e3, e4, e5, hE2, nS1, nS2, gW, kW⟩ := GA.out W2 S2 g2 k2
    have hj : J y S2 W2 := by
      rcases ho with ⟨_, u⟩ | ⟨u, _⟩
      · exact u
      · cases u
    have zW : W.heap.size + 1 ≤ W2.heap.size := by have := k2.size; omega
    have KO := Lib.hid (ofPeriods_any r am ad aw ap cm cd cw cp s k t n0 W2 hE2)
    have G1 : Hid (∀ X, Below W2.heap.size W2 X → Boxed X sB 3 (.int .i64 s) ∧ Boxed X W.heap.size 88 (.func (.yield l) #[] #[]) ∧ J y S2 X) := Lib.hid (fun X q => ⟨bxd_same e1 (q.block _ e1.lt), bxd_same e5 (q.block _ e5.lt), FJ.on _ _ _ _ hj (q.mono hE2.1) (fun b hb => q.block b (FJ.lt _ _ _ hj b hb).2)⟩)
    have L2 := Lib.hid (fun b (hb : S2 b) => (FJ.lt _ _ _ hj b hb))
    have c1 := e1.cell
    have c3 := e3.cell
    have c4 := e4.cell
    have n2 := hE2.1
    obtain ⟨q0, q1, q2, q3, q4, q5, q6, q7⟩ := e2.box
    clear ho hR e1 e2 e3 e4 e5 hE2 hj GA g2 k2
    gi_wp2_with fail
    clear c1 c3 c4 q0 q1 q2 q3 q4 q5 q6 q7
    refine ⟨trivial, (callsIn_wide.2 KO.out).mono ?_⟩
    rintro e w3 ⟨hb3, z3, lb, rfl, hI3⟩
    obtain ⟨e1, e5, hj⟩ := G1.out w3 hb3
    clear G1 KO
    gi_wp2_with fail
    have FI : Frm n0 (Wth (fun b => b = sB ∨ b = W.heap.size) (fun (_ : σ) X => Boxed X sB 3 (.int .i64 s) ∧ Boxed X W.heap.size 88 (.func (.yield l) #[] #[])) id J) := Wth.frm FJ (fun b hb => hb.elim (fun e => e ▸ (HN.out sB (Or.inl rfl)).2.1) (fun e => e ▸ hnW)) (fun _ X hX b hb => hb.elim (fun e => e ▸ hX.1.lt) (fun e => e ▸ hX.2.lt)) (fun _ X X' hX q => ⟨bxd_same hX.1 (q _ (Or.inl rfl)), bxd_same hX.2 (q _ (Or.inr rfl))⟩)
    have FZ : Frm n0 (Wth (fun b => b = sB ∨ b = W.heap.size) (fun (_ : σ) X => Boxed X sB 3 (.int .i64 s) ∧ Boxed X W.heap.size 88 (.func (.yield l) #[] #[])) id JX) := Wth.frm FX (fun b hb => hb.elim (fun e => e ▸ (HN.out sB (Or.inl rfl)).2.1) (fun e => e ▸ hnW)) (fun _ X hX b hb => hb.elim (fun e => e ▸ hX.1.lt) (fun e => e ▸ hX.2.lt)) (fun _ X X' hX q => ⟨bxd_same hX.1 (q _ (Or.inl rfl)), bxd_same hX.2 (q _ (Or.inr rfl))⟩)
    have sW := (HN.out sB (Or.inl rfl)).1
    refine rf_law2 (gf := 275) (lb := lb) rfl (enters_of Tryz.func275 (by kernel_rfl) rfl) hI3 (Below.refl _ _) (by omega) (stB s f)
      (Wth (fun b => b = sB ∨ b = W.heap.size) (fun (_ : σ) X => Boxed X sB 3 (.int .i64 s) ∧ Boxed X W.heap.size 88 (.func (.yield l) #[] #[])) id J)
      (fun c y S X => c = .ret ∧ Wth (fun b => b = sB ∨ b = W.heap.size) (fun (_ : σ) X => Boxed X sB 3 (.int .i64 s) ∧ Boxed X W.heap.size 88 (.func (.yield l) #[] #[])) id JX y S X)
      FI (fun c => ⟨fun y S X h => FZ.lt y S X h.2, fun y S X X' h q p => ⟨h.1, FZ.on y S X X' h.2 q p⟩⟩) y (fun b => S2 b ∨ (b = sB ∨ b = W.heap.size)) ⟨S2, fun b => Iff.rfl, fun b hb => hb.elim (fun e => e ▸ nS1) (fun e => e ▸ nS2), hj, e1, e5⟩ ?hT rfl ?a1 ?assign ?body ?done ?stop
    case hT =>
      rintro b ⟨t1, t2⟩
      refine ⟨by omega, by omega, ?_, rfl⟩
      rintro (z | rfl | rfl)
      · have := (L2.out b z).2; omega
      · omega
      · omega
    case assign =>
      intro l' n X K hK
      gi_wp2
      exact hK
    case body =>
      rintro l' y' S' n X ⟨S0, he, hd, hj', x1, x2⟩ hnX ⟨ns, hE⟩
      have HRE := Lib.hid hE
      clear hE
      have lx : ∀ b, (b = sB ∨ b = W.heap.size) → b < X.heap.size := fun b hb => hb.elim (fun e => e ▸ x1.lt) (fun e => e ▸ x2.lt)
      have c1 := x1.cell
      have c2 := x2.cell
      by_cases hsn : s < n
      · obtain ⟨fn', tmps', assign', body', hy', hR'⟩ := HY.out y' S0 X n (3 - 1) hj' ⟨beh s ns, by rw [RN.out, HRE.out, run_beh]; unfold beh; rw [List.filter_cons_of_pos (by simpa using hsn)]⟩
        rcases hf : f y' n with ⟨y2, _ | _⟩
        · rw [hf] at hR'
          have EF : Hid (stB s f y' n = (y2, false)) := Lib.hid ((if_pos hsn).trans hf)
          clear hf
          gi_wp2
          refine hR'.mono ?_
          clear c1 c2 hy'
          rintro e X2 ⟨rfl, S3, g3, k3, ho⟩
          obtain ⟨d1, d2, d3, d4⟩ := wth_step he hd lx g3 k3
          have hX : JX y2 S3 X2 := by
            rcases ho with ⟨u, _⟩ | ⟨_, u⟩
            · cases u
            · exact u
          have ZZ := Lib.hid (show (∃ y S'', stB s f y' n = (y, false) ∧ Gr S' X S'' ∧ Kps S' X X2 ∧ (Code.ret = .ret ∧ Wth (fun b => b = sB ∨ b = W.heap.size) (fun (_ : σ) X => Boxed X sB 3 (.int .i64 s) ∧ Boxed X W.heap.size 88 (.func (.yield l) #[] #[])) id JX y S'' X2)) from ⟨y2, _, EF.out, d3, d4, rfl, S3, fun b => Iff.rfl, d1, hX, bxd_same x1 (d2 _ (Or.inl rfl)), bxd_same x2 (d2 _ (Or.inr rfl))⟩)
          clear d1 d2 d3 d4 hX ho g3 k3 hR' x1 x2 he hd hj' lx
          gi_wp2
          obtain ⟨u1, u2, u3, u4, u5, _, u6⟩ := ZZ.out
          exact ⟨u1, u2, u3, u4, u5, rfl, u6⟩
        · rw [hf] at hR'
          have EF : Hid (stB s f y' n = (y2, true)) := Lib.hid ((if_pos hsn).trans hf)
          clear hf
          gi_wp2
          refine hR'.mono ?_
          clear c1 c2 hy'
          rintro e X2 ⟨rfl, S3, g3, k3, ho⟩
          obtain ⟨d1, d2, d3, d4⟩ := wth_step he hd lx g3 k3
          have hX : J y2 S3 X2 := by
            rcases ho with ⟨_, u⟩ | ⟨u, _⟩
            · exact u
            · cases u
          have ZZ := Lib.hid (show (∃ y S'', stB s f y' n = (y, true) ∧ Gr S' X S'' ∧ Kps S' X X2 ∧ Wth (fun b => b = sB ∨ b = W.heap.size) (fun (_ : σ) X => Boxed X sB 3 (.int .i64 s) ∧ Boxed X W.heap.size 88 (.func (.yield l) #[] #[])) id J y S'' X2) from ⟨y2, _, EF.out, d3, d4, S3, fun b => Iff.rfl, d1, hX, bxd_same x1 (d2 _ (Or.inl rfl)), bxd_same x2 (d2 _ (Or.inr rfl))⟩)
          clear d1 d2 d3 d4 hX ho g3 k3 hR' x1 x2 he hd hj' lx
          gi_wp2
          exact ZZ.out
      · have ZZ := Lib.hid (show (∃ y S'', stB s f y' n = (y, true) ∧ Gr S' X S'' ∧ Kps S' X X ∧ Wth (fun b => b = sB ∨ b = W.heap.size) (fun (_ : σ) X => Boxed X sB 3 (.int .i64 s) ∧ Boxed X W.heap.size 88 (.func (.yield l) #[] #[])) id J y S'' X) from ⟨y', S', if_neg hsn, Gr.refl _ _, Kps.refl _ _, S0, he, hd, hj', x1, x2⟩)
        clear x1 x2 he hd hj' lx
        gi_wp2
        refine ⟨fun _ h => (by cases h), ?_⟩
        gi_wp2
        exact ZZ.out
    case done =>
      rintro D y' S' X hD hSD hrun ⟨S0, he, hd, hj', x1, x2⟩ hg3 hk3 hDd
      have ZZ := Lib.hid (show (∃ S', Gr S W S' ∧ Kps (fun b => S b ∨ (b = sB ∨ b = rB ∨ b = kB ∨ b = tB)) W (X.putObj D (.deferred none)) ∧ Out J JX (run f x (s :: beh s (flat r s t k))) S' (X.putObj D (.deferred none))) from by
        have nD : ¬ S0 D := fun z => hSD ((he D).2 (Or.inl z))
        have kA : Kps (fun b => S b ∨ (b = sB ∨ b = rB ∨ b = kB ∨ b = tB)) W w3 := kW.trans (Kps.of_below (S := fun _ => False) hb3) (fun _ e => e.elim)
        have kB' := kA.trans hk3 (fun b hb => by
          rcases hb with (z | rfl | rfl) | z
          · exact (gW b z).imp Or.inl id
          · exact Or.inl (Or.inr (Or.inl rfl))
          · exact Or.inr (Nat.le_refl _)
          · exact Or.inr (by omega))
        have kD : Kps (fun b => b = D) X (X.putObj D (.deferred none)) := Kps.put _ rfl
        refine ⟨S0, fun b hb => ?_, kB'.trans kD (fun b e => Or.inr (by omega)), ?_⟩
        · rcases hg3 b ((he b).2 (Or.inl hb)) with (z | z) | z
          · exact gW b z
          · exact absurd hb (hd b z)
          · exact Or.inr (by omega)
        · rw [RN.out, hrun]
          exact Or.inl ⟨rfl, FJ.on _ _ _ _ hj' (kD.below (fun b e => by omega) (by have := hk3.size; omega)) (fun b hb => World.putObj_heap_other (fun e => nD (e ▸ hb)))⟩)
      gi_wp2
      refine ⟨by simp, .inl ⟨_, _, rfl, run_takeDeferred hDd, ?_⟩⟩
      exact ⟨_, results_none rfl _ _ _, ⟨_, rfl⟩, ZZ.out⟩
    case stop =>
      rintro D c y' S' X hD hSD hrun ⟨rfl, S0, he, hd, hj', x1, x2⟩ hg3 hk3 hDd
      have ZZ := Lib.hid (show (∃ S', Gr S W S' ∧ Kps (fun b => S b ∨ (b = sB ∨ b = rB ∨ b = kB ∨ b = tB)) W (X.putObj D (.deferred none)) ∧ Out J JX (run f x (s :: beh s (flat r s t k))) S' (X.putObj D (.deferred none))) from by
        have nD : ¬ S0 D := fun z => hSD ((he D).2 (Or.inl z))
        have kA : Kps (fun b => S b ∨ (b = sB ∨ b = rB ∨ b = kB ∨ b = tB)) W w3 := kW.trans (Kps.of_below (S := fun _ => False) hb3) (fun _ e => e.elim)
        have kB' := kA.trans hk3 (fun b hb => by
          rcases hb with (z | rfl | rfl) | z
          · exact (gW b z).imp Or.inl id
          · exact Or.inl (Or.inr (Or.inl rfl))
          · exact Or.inr (Nat.le_refl _)
          · exact Or.inr (by omega))
        have kD : Kps (fun b => b = D) X (X.putObj D (.deferred none)) := Kps.put _ rfl
        refine ⟨S0, fun b hb => ?_, kB'.trans kD (fun b e => Or.inr (by omega)), ?_⟩
        · rcases hg3 b ((he b).2 (Or.inl hb)) with (z | z) | z
          · exact gW b z
          · exact absurd hb (hd b z)
          · exact Or.inr (by omega)
        · rw [RN.out, hrun]
          exact Or.inr ⟨rfl, FX.on _ _ _ _ hj' (kD.below (fun b e => by omega) (by have := hk3.size; omega)) (fun b hb => World.putObj_heap_other (fun e => nD (e ▸ hb)))⟩)
      gi_wp2
      refine ⟨by simp, .inl ⟨_, _, rfl, run_takeDeferred hDd, ?_⟩⟩
      exact ⟨_, results_none rfl _ _ _, ⟨_, rfl⟩, ZZ.out⟩
set_option maxRecDepth 100000 in
set_option maxHeartbeats 1000000 in
theorem onFrom_any (r : Rl) (am ad aw ap : Option Addr) (cm cd cw cp : Nat) (s k t : Int) (n0 : Nat) (w : World) (hE : Env n0 w (.agg #[.int .i64 r.freq, .int .i64 r.every, .int .i64 r.count, .int .i64 r.till, .slice am r.months.length cm, .slice ad r.days.length cd, .slice aw r.weeks.length cw, .slice ap r.pick.length cp]) r) :
    Calls Tryz.prog 265 #[(.agg #[.int .i64 r.freq, .int .i64 r.every, .int .i64 r.count, .int .i64 r.till, .slice am r.months.length cm, .slice ad r.days.length cd, .slice aw r.weeks.length cw, .slice ap r.pick.length cp]), .int .i64 s, .int .i64 k, .int .i64 t] w (MadeA Tryz.prog w n0 271 (s :: beh s (flat r s t k))) := by
  obtain ⟨W, hW, hB, hz, h0, h1, h2, h3⟩ := four_new w r am ad aw ap cm cd cw cp s k t
  have IT := Lib.hid ((onF_itr r am ad aw ap cm cd cw cp s k t n0 W (w.heap.size + 1) w.heap.size (w.heap.size + 2) (w.heap.size + 3) (hE.on (hB.mono hE.1)) h1 h0 h2 h3).more
    (T' := fun b => w.heap.size ≤ b ∧ b < w.heap.size + 4) (fun b hb => by omega))
  have HB := Lib.hid hB
  have HZ := Lib.hid hz
  have HW := Lib.hid hW
  clear hW hB hz h0 h1 h2 h3 hE
  go_enter Tryz.func265, Tryz.ntmps265
  go_wp2_with fail
  go_ret
  rw [← HW.out]
  exact ⟨HB.out, HZ.out, _, rfl, IT.out⟩
end Go.Proofs.YthdohcjingfpoaaGreatDoor
namespace Go.Proofs.YthdohcjingfpoaaGreatDoor
open Go.RowKit Cal Txt

/-- The longest period of a frequency. -/
def lng (f : Int) : Int := if f = 2 then 7 else if f = 3 then 31 else if f = 4 then 366 else 1
/-- So many periods are passed over. -/
def psd (r : Rl) (s n : Int) : Int := if r.count ≠ 0 ∨ n ≤ s then 0 else (n - s) / (r.every * lng r.freq)
theorem lng_bd (f : Int) : 1 ≤ lng f ∧ lng f ≤ 366 := by unfold lng; split; omega; split; omega; split <;> omega
set_option maxRecDepth 100000 in
theorem longest_any (f : Int) (w : World) : Calls Tryz.prog 273 #[.int .i64 f] w fun e w' => e = .returned (.int .i64 (lng f)) ∧ w' = w := by
  unfold lng
  by_cases h2 : f = 2
  · subst h2
    go_enter Tryz.func273, Tryz.ntmps273
    go_wp2
    go_ret
    exact ⟨rfl, rfl⟩
  by_cases h3 : f = 3
  · subst h3
    go_enter Tryz.func273, Tryz.ntmps273
    go_wp2
    go_ret
    exact ⟨rfl, rfl⟩
  by_cases h4 : f = 4
  · subst h4
    go_enter Tryz.func273, Tryz.ntmps273
    go_wp2
    go_ret
    exact ⟨rfl, rfl⟩
  rw [if_neg h2, if_neg h3, if_neg h4]
  have e2 : (f == 2) = false := by simpa using h2
  have e3 : (f == 3) = false := by simpa using h3
  have e4 : (f == 4) = false := by simpa using h4
  go_enter Tryz.func273, Tryz.ntmps273
  go_wp2
  go_ret
  exact ⟨rfl, rfl⟩
set_option maxRecDepth 100000 in
set_option maxHeartbeats 1000000 in
theorem passed_any (r : Rl) (am ad aw ap : Option Addr) (cm cd cw cp : Nat) (s n : Int) (w : World) (he : 1 ≤ r.every ∧ r.every ≤ 50) (hs : 1 ≤ s) (hn : n ≤ s ∨ n ≤ 9223372036854775807) :
    Calls Tryz.prog 266 #[(.agg #[.int .i64 r.freq, .int .i64 r.every, .int .i64 r.count, .int .i64 r.till, .slice am r.months.length cm, .slice ad r.days.length cd, .slice aw r.weeks.length cw, .slice ap r.pick.length cp]), .int .i64 s, .int .i64 n] w fun e w' => e = .returned (.int .i64 (psd r s n)) ∧ Below w.heap.size w w' := by
  by_cases hc : r.count = 0
  · by_cases hns : n ≤ s
    · have EP : Hid (psd r s n = 0) := Lib.hid (if_pos (Or.inr hns))
      have e1 : (r.count == 0) = true := by simpa using hc
      go_enter Tryz.func266, Tryz.ntmps266
      go_wp2
      go_ret
      exact ⟨by rw [EP.out]; rfl, (Below.refl _ _).alloc (Nat.le_refl _) _⟩
    · have hn' : n ≤ 9223372036854775807 := hn.resolve_left hns
      clear hn
      have lb := lng_bd r.freq
      have m1 : 1 ≤ r.every * lng r.freq ∧ r.every * lng r.freq ≤ 18300 := by
        have a := Int.mul_le_mul he.1 lb.1 (by omega) (by omega)
        have b := Int.mul_le_mul he.2 lb.2 (by omega) (by omega)
        omega
      have EP : Hid (psd r s n = (n - s).tdiv (r.every * lng r.freq)) := Lib.hid ((if_neg (by omega)).trans (Int.tdiv_eq_ediv_of_nonneg (by omega)).symm)
      have e1 : (r.count == 0) = true := by simpa using hc
      have QB : 0 ≤ (n - s).tdiv (r.every * lng r.freq) ∧ (n - s).tdiv (r.every * lng r.freq) ≤ n - s := by
        rw [Int.tdiv_eq_ediv_of_nonneg (by omega)]
        exact ⟨Int.ediv_nonneg (by omega) (by omega), Int.ediv_le_self _ (by omega)⟩
      have KL := Lib.hid (fun W => longest_any r.freq W)
      generalize lng r.freq = L at lb m1 EP QB KL
      generalize hm : r.every * L = M at m1 EP QB
      go_enter Tryz.func266, Tryz.ntmps266
      go_wp2_with fail
      go_big_quiet ((go_at_call 273; exact Calls.quiet_of_same (KL.out _)))
      go_wp2
      go_ret
      exact ⟨by rw [EP.out, ← hm]; rfl, below_drewN ((Below.refl _ _).alloc (Nat.le_refl _) _) _⟩
  · have EP : Hid (psd r s n = 0) := Lib.hid (if_pos (Or.inl hc))
    have e1 : (r.count == 0) = false := by simpa using hc
    go_enter Tryz.func266, Tryz.ntmps266
    go_wp2
    go_ret
    exact ⟨by rw [EP.out]; rfl, (Below.refl _ _).alloc (Nat.le_refl _) _⟩
end Go.Proofs.YthdohcjingfpoaaGreatDoor
