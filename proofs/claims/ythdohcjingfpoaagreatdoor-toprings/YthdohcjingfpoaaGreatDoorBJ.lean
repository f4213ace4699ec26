/-
  What is proved here: what package seq's between hands out (a contract over the translation).
  What is proved here: what package seq's between answers (a contract over the translation).
  What is proved here: what package seq's atMost lists (a contract over the translation).
-/
import Derived.Test.YthdohcjingfpoaaGreatDoorBI
import Derived.Deep.RegionHeld3
import Derived.Lib.QuietBelow
import Derived.ControlIn
import Derived.Maps.AppendAt
namespace Go.Proofs.YthdohcjingfpoaaGreatDoor
open Go.RowKit Go.Shelf Cal Txt
attribute [local go_sem] Oper.semAt_some

/-- A number that is counted on, as it wraps round. -/
def inc (c : Int) : Int := wrap64 (c + 1)
/-- Those up to t, at most so many, of them those from fr on. -/
def stW {σ : Type} (fr t cnt : Int) (f : σ → Int → σ × Bool) (q : σ × Int × Bool) (n : Int) : (σ × Int × Bool) × Bool :=
  if t < n then ((q.1, q.2.1, true), false)
  else if fr ≤ n then (match f q.1 n with
    | (y, false) => ((y, q.2.1, false), false)
    | (y, true) => ((y, inc q.2.1, true), inc q.2.1 != cnt))
  else ((q.1, inc q.2.1, true), inc q.2.1 != cnt)
theorem stW_far {σ : Type} {fr t cnt : Int} {f : σ → Int → σ × Bool} {x : σ} {c : Int} {b : Bool} {n : Int} (h : t < n) : stW fr t cnt f (x, c, b) n = ((x, c, true), false) := if_pos h
theorem stW_ahead {σ : Type} {fr t cnt : Int} {f : σ → Int → σ × Bool} {x : σ} {c : Int} {b : Bool} {n : Int} (h : ¬ t < n) (k : ¬ fr ≤ n) : stW fr t cnt f (x, c, b) n = ((x, inc c, true), inc c != cnt) := (if_neg h).trans (if_neg k)
theorem stW_no {σ : Type} {fr t cnt : Int} {f : σ → Int → σ × Bool} {x y : σ} {c : Int} {b : Bool} {n : Int} (h : ¬ t < n) (k : fr ≤ n) (hf : f x n = (y, false)) : stW fr t cnt f (x, c, b) n = ((y, c, false), false) := by
  refine (if_neg h).trans ((if_pos k).trans ?_)
  show (match f x n with | (y, false) => ((y, c, false), false) | (y, true) => ((y, inc c, true), inc c != cnt)) = _
  rw [hf]
theorem stW_yes {σ : Type} {fr t cnt : Int} {f : σ → Int → σ × Bool} {x y : σ} {c : Int} {b : Bool} {n : Int} (h : ¬ t < n) (k : fr ≤ n) (hf : f x n = (y, true)) : stW fr t cnt f (x, c, b) n = ((y, inc c, true), inc c != cnt) := by
  refine (if_neg h).trans ((if_pos k).trans ?_)
  show (match f x n with | (y, false) => ((y, c, false), false) | (y, true) => ((y, inc c, true), inc c != cnt)) = _
  rw [hf]
/-- Those that are handed out. -/
def btw (fr t cnt : Int) : Int → List Int → List Int
  | _, [] => []
  | c, n :: ns => if t < n then [] else if fr ≤ n then n :: (if (inc c != cnt) = true then btw fr t cnt (inc c) ns else []) else (if (inc c != cnt) = true then btw fr t cnt (inc c) ns else [])
theorem run_btw {σ : Type} (fr t cnt : Int) (f : σ → Int → σ × Bool) : ∀ (L : List Int) (x : σ) (c : Int) (b0 : Bool), b0 = true → ∃ c' e, run (stW fr t cnt f) (x, c, b0) L = (((run f x (btw fr t cnt c L)).1, c', (run f x (btw fr t cnt c L)).2), e) ∧ (e = true → (run f x (btw fr t cnt c L)).2 = true)
  | [], x, c, b0, h0 => ⟨c, true, by subst h0; rfl, fun _ => rfl⟩
  | n :: ns, x, c, b0, h0 => by
    by_cases h : t < n
    · have e : btw fr t cnt c (n :: ns) = [] := if_pos h
      rw [e, run_no (stW_far h), run_nil]
      exact ⟨c, false, rfl, fun _ => rfl⟩
    by_cases k : fr ≤ n
    · have e : btw fr t cnt c (n :: ns) = n :: (if (inc c != cnt) = true then btw fr t cnt (inc c) ns else []) := (if_neg h).trans (if_pos k)
      rcases hf : f x n with ⟨y, _ | _⟩
      · rw [e, run_no (stW_no h k hf), run_no hf]
        exact ⟨c, false, rfl, fun z => by cases z⟩
      · have e2 := stW_yes (c := c) (b := b0) (cnt := cnt) h k hf
        rw [e, run_yes hf]
        by_cases q : (inc c != cnt) = true
        · rw [q] at e2
          rw [if_pos q, run_yes e2]
          exact run_btw fr t cnt f ns y (inc c) true rfl
        · rw [show (inc c != cnt) = false by simpa using q] at e2
          rw [if_neg q, run_no e2, run_nil]
          exact ⟨inc c, false, rfl, fun _ => rfl⟩
    · have e : btw fr t cnt c (n :: ns) = (if (inc c != cnt) = true then btw fr t cnt (inc c) ns else []) := (if_neg h).trans (if_neg k)
      have e2 := stW_ahead (f := f) (x := x) (c := c) (b := b0) (cnt := cnt) h k
      rw [e]
      by_cases q : (inc c != cnt) = true
      · rw [q] at e2
        rw [if_pos q, run_yes e2]
        exact run_btw fr t cnt f ns x (inc c) true rfl
      · rw [show (inc c != cnt) = false by simpa using q] at e2
        rw [if_neg q, run_no e2, run_nil]
        exact ⟨inc c, false, rfl, fun _ => rfl⟩
theorem run_any {σ : Type} {fr t cnt : Int} {f : σ → Int → σ × Bool} {x : σ} {c : Int} {b : Bool} {n : Int} {ns : List Int} : run (stW fr t cnt f) (x, c, b) (n :: ns) = run (stW fr t cnt f) (x, c, true) (n :: ns) := rfl
/-- Where it all ends, seen from a step that is handed on. -/
theorem run_back {σ : Type} {fr t cnt : Int} {f : σ → Int → σ × Bool} {x x' : σ} {c c' : Int} {bb : Bool} {n : Int} {L ns : List Int} (h : ¬ t < n) (k : fr ≤ n) (e : run (stW fr t cnt f) (x, c, true) L = run (stW fr t cnt f) (x', c', bb) (n :: ns)) :
    ∃ ms, run f x (btw fr t cnt c L) = run f x' (n :: ms) := by
  obtain ⟨c1, e1, q1, _⟩ := run_btw fr t cnt f L x c true rfl
  obtain ⟨c2, e2, q2, _⟩ := run_btw fr t cnt f (n :: ns) x' c' true rfl
  rw [run_any, q1, q2] at e
  have eb : btw fr t cnt c' (n :: ns) = n :: (if (inc c' != cnt) = true then btw fr t cnt (inc c') ns else []) := (if_neg h).trans (if_pos k)
  refine ⟨(if (inc c' != cnt) = true then btw fr t cnt (inc c') ns else []), ?_⟩
  rw [← eb]
  have i1 := congrArg (fun z => z.1.1) e
  have i2 := congrArg (fun z => z.1.2.2) e
  exact Prod.ext i1 i2
set_option maxRecDepth 100000 in
set_option maxHeartbeats 4000000 in
theorem bet_itr (r : Rl) (am ad aw ap : Option Addr) (cm cd cw cp : Nat) (s fr t : Int) (n0 : Nat) (w0 : World) (rB sB fB tB : Nat) (hE : Env n0 w0 (.agg #[.int .i64 r.freq, .int .i64 r.every, .int .i64 r.count, .int .i64 r.till, .slice am r.months.length cm, .slice ad r.days.length cd, .slice aw r.weeks.length cw, .slice ap r.pick.length cp]) r) (hr : RlB w0 rB r am ad aw ap cm cd cw cp) (hs : Boxed w0 sB 3 (.int .i64 s)) (hf : Boxed w0 fB 3 (.int .i64 fr)) (ht : Boxed w0 tB 3 (.int .i64 t))
    (he : 1 ≤ r.every ∧ r.every ≤ 50) (s1 : 1 ≤ s) (hfr : fr ≤ s ∨ fr ≤ 9223372036854775807) :
    Itr Tryz.prog 264 #[.pointer (some ⟨rB, 0, none⟩), .pointer (some ⟨sB, 0, none⟩), .pointer (some ⟨fB, 0, none⟩), .pointer (some ⟨tB, 0, none⟩)] (btw fr t r.count 0 (s :: beh s (flat r s t (psd r s fr)))) n0 w0 (fun b => b = rB ∨ b = sB ∨ b = fB ∨ b = tB) := by
  intro σ f J JX l x S W FJ FX hY hJ hB hn hT
  have hnW : n0 ≤ W.heap.size := Nat.le_trans hn hB.size
  have HN := Lib.hid (fun b (q : b = rB ∨ b = sB ∨ b = fB ∨ b = tB) => (⟨Nat.lt_of_lt_of_le (hT b q).1 hB.size, (hT b q).2.1, (hT b q).2.2.1⟩ : b < W.heap.size ∧ n0 ≤ b ∧ ¬ S b))
  have hw : ∀ b, (b = rB ∨ b = sB ∨ b = fB ∨ b = tB) → W.heap[b]? = w0.heap[b]? := fun b hb => (hT b hb).2.2.2
  have b1 : RlB W rB r am ad aw ap cm cd cw cp := (hw _ (Or.inl rfl)).trans hr
  have b2 : Boxed W sB 3 (.int .i64 s) := bxd_same hs (hw _ (Or.inr (Or.inl rfl)))
  have b3 : Boxed W fB 3 (.int .i64 fr) := bxd_same hf (hw _ (Or.inr (Or.inr (Or.inl rfl))))
  have b4 : Boxed W tB 3 (.int .i64 t) := bxd_same ht (hw _ (Or.inr (Or.inr (Or.inr rfl))))
  have HE := Lib.hid (hE.on hB)
  clear hw hT hs hr hf ht hE hB hn
  obtain ⟨W1, hW1⟩ : ∃ W1, W1 = ((W.alloc (.cells #[.func (.yield l) #[] #[]] 88)).alloc (.cells #[.int .i64 0] 3)) := ⟨_, rfl⟩
  have hB1 : Below W.heap.size W W1 := by rw [hW1]; exact ((Below.refl _ _).alloc (Nat.le_refl _) _).alloc (by simp) _
  have y1 : Boxed W1 W.heap.size 88 (.func (.yield l) #[] #[]) := by rw [hW1]; exact (Boxed.new _ _ _).alloc _
  have c1 : Boxed W1 (W.heap.size + 1) 3 (.int .i64 0) := by
    have h0 := Boxed.new (W.alloc (.cells #[.func (.yield l) #[] #[]] 88)) 3 (.int .i64 0)
    rw [World.size_alloc] at h0
    rw [hW1]; exact h0
  have z1 : W1.heap.size = W.heap.size + 2 := by rw [hW1]; simp
  have G1 : Hid (∀ X, Below W1.heap.size W1 X → RlB X rB r am ad aw ap cm cd cw cp ∧ Boxed X sB 3 (.int .i64 s) ∧ Boxed X fB 3 (.int .i64 fr) ∧ Boxed X tB 3 (.int .i64 t) ∧ Boxed X W.heap.size 88 (.func (.yield l) #[] #[]) ∧ Boxed X (W.heap.size + 1) 3 (.int .i64 0) ∧ Env n0 X (.agg #[.int .i64 r.freq, .int .i64 r.every, .int .i64 r.count, .int .i64 r.till, .slice am r.months.length cm, .slice ad r.days.length cd, .slice aw r.weeks.length cw, .slice ap r.pick.length cp]) r ∧ J x S X ∧ Below W.heap.size W X) := Lib.hid (fun X q => by
    have h2 : Below W.heap.size W X := hB1.trans (q.mono hB1.size)
    exact ⟨(h2.block _ (HN.out rB (Or.inl rfl)).1).trans b1, bxd_same b2 (h2.block _ b2.lt), bxd_same b3 (h2.block _ b3.lt), bxd_same b4 (h2.block _ b4.lt), bxd_same y1 (q.block _ y1.lt), bxd_same c1 (q.block _ c1.lt), HE.out.on (h2.mono hnW), FJ.on _ _ _ _ hJ (h2.mono hnW) (fun b hb => h2.block b (FJ.lt _ _ _ hJ b hb).2), h2⟩)
  clear b1 b2 b3 b4 y1 c1 HE hB1
  refine (callsIn_wide (n := 3)).1 ?_
  refine callsIn_of_wp_marks Tryz.func264 rfl trivial ?_ rfl
  simp only [Tryz.ntmps264, List.size_toArray, List.length_cons, List.length_nil, Nat.reduceAdd, Nat.reduceSub, Array.replicate_succ, Array.replicate_zero, List.push_toArray, List.append_toArray, List.nil_append, List.cons_append]
  gi_wp2_with fail
  rw [← hW1]
  have KP : Hid (∀ X, Calls Tryz.prog 266 #[(.agg #[.int .i64 r.freq, .int .i64 r.every, .int .i64 r.count, .int .i64 r.till, .slice am r.months.length cm, .slice ad r.days.length cd, .slice aw r.weeks.length cw, .slice ap r.pick.length cp]), .int .i64 s, .int .i64 fr] X fun e w' => e = .returned (.int .i64 (psd r s fr)) ∧ Below X.heap.size X w') := Lib.hid (fun X => passed_any r am ad aw ap cm cd cw cp s fr X he s1 hfr)
  have KO : Hid (∀ X, Below W1.heap.size W1 X → Calls Tryz.prog 265 #[(.agg #[.int .i64 r.freq, .int .i64 r.every, .int .i64 r.count, .int .i64 r.till, .slice am r.months.length cm, .slice ad r.days.length cd, .slice aw r.weeks.length cw, .slice ap r.pick.length cp]), .int .i64 s, .int .i64 (psd r s fr), .int .i64 t] X (MadeA Tryz.prog X n0 271 (s :: beh s (flat r s t (psd r s fr))))) := Lib.hid (fun X q => onFrom_any r am ad aw ap cm cd cw cp s (psd r s fr) t n0 X (G1.out X q).2.2.2.2.2.2.1)
  have HS : Hid (∀ X, Below W1.heap.size W1 X → X.cell? ⟨rB, 0, none⟩ = some (.int .i64 r.freq) ∧ X.cell? ⟨rB, 1, none⟩ = some (.int .i64 r.every) ∧ X.cell? ⟨rB, 2, none⟩ = some (.int .i64 r.count) ∧ X.cell? ⟨rB, 3, none⟩ = some (.int .i64 r.till) ∧ X.cell? ⟨rB, 4, none⟩ = some (.slice am r.months.length cm) ∧ X.cell? ⟨rB, 5, none⟩ = some (.slice ad r.days.length cd) ∧ X.cell? ⟨rB, 6, none⟩ = some (.slice aw r.weeks.length cw) ∧ X.cell? ⟨rB, 7, none⟩ = some (.slice ap r.pick.length cp) ∧
      X.cell? ⟨sB, 0, none⟩ = some (.int .i64 s) ∧ X.cell? ⟨fB, 0, none⟩ = some (.int .i64 fr) ∧ X.cell? ⟨tB, 0, none⟩ = some (.int .i64 t)) := Lib.hid (fun X q => by
    obtain ⟨g1, g2, g3, g4, _⟩ := G1.out X q
    obtain ⟨q0, q1, q2, q3, q4, q5, q6, q7⟩ := g1.box
    exact ⟨q0, q1, q2, q3, q4, q5, q6, q7, g2.cell, g3.cell, g4.cell⟩)
  clear hW1
  refine wpIn_wide.2 ?_
  go_region_held3 (fun X => X.cell? ⟨rB, 0, none⟩ = some (.int .i64 r.freq) ∧ X.cell? ⟨rB, 1, none⟩ = some (.int .i64 r.every) ∧ X.cell? ⟨rB, 2, none⟩ = some (.int .i64 r.count) ∧ X.cell? ⟨rB, 3, none⟩ = some (.int .i64 r.till) ∧ X.cell? ⟨rB, 4, none⟩ = some (.slice am r.months.length cm) ∧ X.cell? ⟨rB, 5, none⟩ = some (.slice ad r.days.length cd) ∧ X.cell? ⟨rB, 6, none⟩ = some (.slice aw r.weeks.length cw) ∧ X.cell? ⟨rB, 7, none⟩ = some (.slice ap r.pick.length cp) ∧
      X.cell? ⟨sB, 0, none⟩ = some (.int .i64 s) ∧ X.cell? ⟨fB, 0, none⟩ = some (.int .i64 fr) ∧ X.cell? ⟨tB, 0, none⟩ = some (.int .i64 t))
    (first | exact HS.out _ (Below.refl _ _).drew | exact HS.out _ hb2 | exact HS.out _ (Below.trans hb2 (Below.mono hb3 (Below.size hb2)))) (first
    | (go_at_call 266; refine (KP.out _).mono ?_; rintro e w2 ⟨rfl, hb2'⟩; have hb2 : Below W1.heap.size W1 w2 := Below.trans (Below.drew (Below.refl _ W1)) hb2'; clear hb2')
    | (go_at_call 265; refine (KO.out _ hb2).mono ?_; rintro e w3 ⟨hb3, z3, lb, rfl, hI3⟩))
  obtain ⟨e1, e2, e3, e4, e5, e6, hE2, hj, hBW⟩ := G1.out w3 (Below.trans hb2 (Below.mono hb3 (Below.size hb2)))
  have z2 : W.heap.size + 2 ≤ w2.heap.size := by have := hb2.size; omega
  have LS := Lib.hid (fun b (hb : S b) => (FJ.lt _ _ _ hJ b hb))
  have HY := Lib.hid hY
  clear KP KO HS G1 hb2 hE2 hY
  gi_wp2_with fail
  have E0 : ∀ b, (b = rB ∨ b = fB ∨ b = tB ∨ b = W.heap.size ∨ b = W.heap.size + 1) → n0 ≤ b ∧ b < W.heap.size + 2 ∧ ¬ S b := fun b hb => by
    have HA := HN.out rB (Or.inl rfl)
    have HC := HN.out fB (Or.inr (Or.inr (Or.inl rfl)))
    have HD := HN.out tB (Or.inr (Or.inr (Or.inr rfl)))
    rcases hb with rfl | rfl | rfl | rfl | rfl
    · exact ⟨HA.2.1, by omega, HA.2.2⟩
    · exact ⟨HC.2.1, by omega, HC.2.2⟩
    · exact ⟨HD.2.1, by omega, HD.2.2⟩
    · exact ⟨hnW, by omega, fun z => absurd (LS.out _ z).2 (by omega)⟩
    · exact ⟨by omega, by omega, fun z => absurd (LS.out _ z).2 (by omega)⟩
  have FI : ∀ K : σ → (Nat → Prop) → World → Prop, Frm n0 K → Frm n0 (Wth (fun b => b = rB ∨ b = fB ∨ b = tB ∨ b = W.heap.size ∨ b = W.heap.size + 1) (fun (q : σ × Int × Bool) X => RlB X rB r am ad aw ap cm cd cw cp ∧ Boxed X fB 3 (.int .i64 fr) ∧ Boxed X tB 3 (.int .i64 t) ∧ Boxed X W.heap.size 88 (.func (.yield l) #[] #[]) ∧ Boxed X (W.heap.size + 1) 3 (.int .i64 q.2.1)) Prod.fst K) := fun K FK => Wth.frm FK (fun b hb => (E0 b hb).1)
    (fun _ X ⟨h1, h2, h3, h4, h5⟩ b hb => by
      rcases hb with rfl | rfl | rfl | rfl | rfl
      · exact (Array.getElem?_eq_some_iff.1 h1).1
      · exact h2.lt
      · exact h3.lt
      · exact h4.lt
      · exact h5.lt)
    (fun _ X X' ⟨h1, h2, h3, h4, h5⟩ q => ⟨(q _ (Or.inl rfl)).trans h1, bxd_same h2 (q _ (Or.inr (Or.inl rfl))), bxd_same h3 (q _ (Or.inr (Or.inr (Or.inl rfl)))), bxd_same h4 (q _ (Or.inr (Or.inr (Or.inr (Or.inl rfl))))), bxd_same h5 (q _ (Or.inr (Or.inr (Or.inr (Or.inr rfl)))))⟩)
  have ST : ∀ (K : σ → (Nat → Prop) → World → Prop) (_ : Frm n0 K) (y : σ) (c' : Int) (S' S0 : Nat → Prop) (X : World), n0 ≤ X.heap.size → (∀ b, S' b ↔ (S0 b ∨ (b = rB ∨ b = fB ∨ b = tB ∨ b = W.heap.size ∨ b = W.heap.size + 1))) → (∀ b, (b = rB ∨ b = fB ∨ b = tB ∨ b = W.heap.size ∨ b = W.heap.size + 1) → ¬ S0 b) → K y S0 X →
      RlB X rB r am ad aw ap cm cd cw cp → Boxed X fB 3 (.int .i64 fr) → Boxed X tB 3 (.int .i64 t) → Boxed X W.heap.size 88 (.func (.yield l) #[] #[]) → Boxed X (W.heap.size + 1) 3 (.int .i64 c') →
      Wth (fun b => b = rB ∨ b = fB ∨ b = tB ∨ b = W.heap.size ∨ b = W.heap.size + 1) (fun (q : σ × Int × Bool) X => RlB X rB r am ad aw ap cm cd cw cp ∧ Boxed X fB 3 (.int .i64 fr) ∧ Boxed X tB 3 (.int .i64 t) ∧ Boxed X W.heap.size 88 (.func (.yield l) #[] #[]) ∧ Boxed X (W.heap.size + 1) 3 (.int .i64 q.2.1)) Prod.fst K (y, inc c', true) S' (X.setCell ⟨W.heap.size + 1, 0, none⟩ (.int .i64 (wrap64 (c' + 1)))) ∧ Kps S' X (X.setCell ⟨W.heap.size + 1, 0, none⟩ (.int .i64 (wrap64 (c' + 1)))) := fun K FK y c' S' S0 X hnX he' hd hj' h1 h2 h3 h4 h5 => by
    have ne : ∀ {b : Nat}, b ≠ W.heap.size + 1 → (X.setCell ⟨W.heap.size + 1, 0, none⟩ (.int .i64 (wrap64 (c' + 1)))).heap[b]? = X.heap[b]? := fun h => Below.heap_setCell _ _ _ _ h
    have HA := HN.out rB (Or.inl rfl)
    have HC := HN.out fB (Or.inr (Or.inr (Or.inl rfl)))
    have HD := HN.out tB (Or.inr (Or.inr (Or.inr rfl)))
    have KS : Kps (fun b => b = W.heap.size + 1) X (X.setCell ⟨W.heap.size + 1, 0, none⟩ (.int .i64 (wrap64 (c' + 1)))) := Kps.set _ rfl
    refine ⟨⟨S0, he', hd, FK.on _ _ _ _ hj' (KS.below (fun b z => by omega) hnX) (fun b z => ne (fun e => hd _ (Or.inr (Or.inr (Or.inr (Or.inr rfl)))) (e ▸ z))), (ne (by omega)).trans h1, bxd_same h2 (ne (by omega)), bxd_same h3 (ne (by omega)), bxd_same h4 (ne (by omega)), h5.set _⟩, KS.mono (fun b z => (he' b).2 (Or.inr (Or.inr (Or.inr (Or.inr (Or.inr z))))))⟩
  have F1 := FI J FJ
  have F2 := FI JX FX
  refine rf_law2 (gf := 271) (lb := lb) rfl (enters_of Tryz.func271 (by kernel_rfl) rfl) hI3 (Below.refl _ _) (by omega) (stW fr t r.count f)
    (Wth (fun b => b = rB ∨ b = fB ∨ b = tB ∨ b = W.heap.size ∨ b = W.heap.size + 1) (fun (q : σ × Int × Bool) X => RlB X rB r am ad aw ap cm cd cw cp ∧ Boxed X fB 3 (.int .i64 fr) ∧ Boxed X tB 3 (.int .i64 t) ∧ Boxed X W.heap.size 88 (.func (.yield l) #[] #[]) ∧ Boxed X (W.heap.size + 1) 3 (.int .i64 q.2.1)) Prod.fst J)
    (fun c q S X => c = .ret ∧ ((q.2.2 = true ∧ Wth (fun b => b = rB ∨ b = fB ∨ b = tB ∨ b = W.heap.size ∨ b = W.heap.size + 1) (fun (q : σ × Int × Bool) X => RlB X rB r am ad aw ap cm cd cw cp ∧ Boxed X fB 3 (.int .i64 fr) ∧ Boxed X tB 3 (.int .i64 t) ∧ Boxed X W.heap.size 88 (.func (.yield l) #[] #[]) ∧ Boxed X (W.heap.size + 1) 3 (.int .i64 q.2.1)) Prod.fst J q S X) ∨
      (q.2.2 = false ∧ Wth (fun b => b = rB ∨ b = fB ∨ b = tB ∨ b = W.heap.size ∨ b = W.heap.size + 1) (fun (q : σ × Int × Bool) X => RlB X rB r am ad aw ap cm cd cw cp ∧ Boxed X fB 3 (.int .i64 fr) ∧ Boxed X tB 3 (.int .i64 t) ∧ Boxed X W.heap.size 88 (.func (.yield l) #[] #[]) ∧ Boxed X (W.heap.size + 1) 3 (.int .i64 q.2.1)) Prod.fst JX q S X)))
    F1 (fun c => ⟨fun q S X h => h.2.elim (fun z => F1.lt q S X z.2) (fun z => F2.lt q S X z.2), fun q S X X' h u v => ⟨h.1, h.2.imp (fun z => ⟨z.1, F1.on q S X X' z.2 u v⟩) (fun z => ⟨z.1, F2.on q S X X' z.2 u v⟩)⟩⟩)
    (x, 0, true) (fun b => S b ∨ (b = rB ∨ b = fB ∨ b = tB ∨ b = W.heap.size ∨ b = W.heap.size + 1)) ⟨S, fun b => Iff.rfl, fun b hb => (E0 b hb).2.2, hj, e1, e3, e4, e5, e6⟩ ?hT rfl ?a1 ?assign ?body ?done ?stop
  case hT =>
    rintro b ⟨t1, t2⟩
    refine ⟨by omega, by omega, ?_, rfl⟩
    rintro (z | z)
    · have := (LS.out b z).2; omega
    · have := (E0 b z).2.1; omega
  case assign =>
    intro l' n X K hK
    gi_wp2
    exact hK
  case body =>
    rintro l' ⟨x', c', bb⟩ S' n X ⟨S0, he', hd, hj', h1, h2, h3, h4, h5⟩ hnX ⟨ns, hE⟩
    have HRE := Lib.hid hE
    clear hE
    have lx : ∀ b, (b = rB ∨ b = fB ∨ b = tB ∨ b = W.heap.size ∨ b = W.heap.size + 1) → b < X.heap.size := fun b hb => by
      rcases hb with rfl | rfl | rfl | rfl | rfl
      · exact (Array.getElem?_eq_some_iff.1 h1).1
      · exact h2.lt
      · exact h3.lt
      · exact h4.lt
      · exact h5.lt
    have HX := Lib.hid (⟨h1, h2, h3, h4, h5⟩ : RlB X rB r am ad aw ap cm cd cw cp ∧ Boxed X fB 3 (.int .i64 fr) ∧ Boxed X tB 3 (.int .i64 t) ∧ Boxed X W.heap.size 88 (.func (.yield l) #[] #[]) ∧ Boxed X (W.heap.size + 1) 3 (.int .i64 c'))
    have HJ := Lib.hid hj'
    have HEQ := Lib.hid he'
    have HDS := Lib.hid hd
    have LX := Lib.hid lx
    have k2 := h2.cell
    have k3 := h3.cell
    have k4 := h4.cell
    have k5 := h5.cell
    have k6 := h5.frozen
    obtain ⟨_, _, q2, _⟩ := h1.box
    clear h1 h2 h3 h4 h5 he' hd hj' lx
    by_cases htn : t < n
    · have EF := Lib.hid (stW_far (fr := fr) (cnt := r.count) (f := f) (x := x') (c := c') (b := bb) htn)
      gi_wp2
      all_goals first
        | exact absurd ‹some undef = some (Value.bool _)› (fun hh => by injection hh with hh; cases hh)
        | skip
      refine ⟨fun _ h => (by cases h), ?_⟩
      gi_wp2
      exact ⟨_, S', EF.out, Gr.refl _ _, Kps.refl _ _, rfl, Or.inl ⟨rfl, S0, HEQ.out, HDS.out, HJ.out, HX.out⟩⟩
    · by_cases hfn : fr ≤ n
      · obtain ⟨fn', tmps', assign', body', hy', hR'⟩ := HY.out x' S0 X n (3 - 1) HJ.out (run_back htn hfn HRE.out)
        rcases hf : f x' n with ⟨y2, _ | _⟩
        · rw [hf] at hR'
          have EF := Lib.hid (stW_no (cnt := r.count) (c := c') (b := bb) htn hfn hf)
          clear hf
          gi_wp2
          refine hR'.mono ?_
          clear k2 k3 k4 k5 k6 q2 hy'
          rintro e X2 ⟨rfl, S3, g3, k3, ho⟩
          obtain ⟨d1, d2, d3, d4⟩ := wth_step HEQ.out HDS.out LX.out g3 k3
          have hX : JX y2 S3 X2 := by
            rcases ho with ⟨u, _⟩ | ⟨_, u⟩
            · cases u
            · exact u
          obtain ⟨h1, h2, h3, h4, h5⟩ := HX.out
          have WW := Lib.hid (show Wth (fun b => b = rB ∨ b = fB ∨ b = tB ∨ b = W.heap.size ∨ b = W.heap.size + 1) (fun (q : σ × Int × Bool) X => RlB X rB r am ad aw ap cm cd cw cp ∧ Boxed X fB 3 (.int .i64 fr) ∧ Boxed X tB 3 (.int .i64 t) ∧ Boxed X W.heap.size 88 (.func (.yield l) #[] #[]) ∧ Boxed X (W.heap.size + 1) 3 (.int .i64 q.2.1)) Prod.fst JX (y2, c', false) _ X2 from ⟨S3, fun b => Iff.rfl, d1, hX, (d2 _ (Or.inl rfl)).trans h1, bxd_same h2 (d2 _ (Or.inr (Or.inl rfl))), bxd_same h3 (d2 _ (Or.inr (Or.inr (Or.inl rfl)))), bxd_same h4 (d2 _ (Or.inr (Or.inr (Or.inr (Or.inl rfl))))), bxd_same h5 (d2 _ (Or.inr (Or.inr (Or.inr (Or.inr rfl)))))⟩)
          have D3 := Lib.hid d3
          have D4 := Lib.hid d4
          clear d1 d2 d3 d4 hX ho g3 k3 hR' h1 h2 h3 h4 h5
          gi_wp2
          exact ⟨_, _, EF.out, D3.out, D4.out, rfl, Or.inr ⟨rfl, WW.out⟩⟩
        · rw [hf] at hR'
          have EF := Lib.hid (stW_yes (cnt := r.count) (c := c') (b := bb) htn hfn hf)
          clear hf
          gi_wp2
          refine hR'.mono ?_
          clear k2 k3 k4 k5 k6 q2 hy'
          rintro e X2 ⟨rfl, S3, g3, k3, ho⟩
          obtain ⟨d1, d2, d3, d4⟩ := wth_step HEQ.out HDS.out LX.out g3 k3
          have hX : J y2 S3 X2 := by
            rcases ho with ⟨_, u⟩ | ⟨u, _⟩
            · exact u
            · cases u
          obtain ⟨h1, h2, h3, h4, h5⟩ := HX.out
          replace h1 : RlB X2 rB r am ad aw ap cm cd cw cp := (d2 _ (Or.inl rfl)).trans h1
          replace h2 := bxd_same h2 (d2 _ (Or.inr (Or.inl rfl)))
          replace h3 := bxd_same h3 (d2 _ (Or.inr (Or.inr (Or.inl rfl))))
          replace h4 := bxd_same h4 (d2 _ (Or.inr (Or.inr (Or.inr (Or.inl rfl)))))
          replace h5 := bxd_same h5 (d2 _ (Or.inr (Or.inr (Or.inr (Or.inr rfl)))))
          obtain ⟨WW, KK⟩ := ST J FJ y2 c' (fun b => S3 b ∨ (b = rB ∨ b = fB ∨ b = tB ∨ b = W.heap.size ∨ b = W.heap.size + 1)) S3 X2 (Nat.le_trans hnX k3.size) (fun b => Iff.rfl) d1 hX h1 h2 h3 h4 h5
          have WH := Lib.hid WW
          have D3 := Lib.hid d3
          have D4 := Lib.hid (d4.trans KK d3)
          have k5 := h5.cell
          have k6 := h5.frozen
          obtain ⟨_, _, q2, _⟩ := h1.box
          clear d1 d2 d3 d4 hX ho g3 k3 hR' h1 h2 h3 h4 h5 WW KK
          rcases hcq : (wrap64 (c' + 1) == r.count) with _ | _
          · rw [show (inc c' != r.count) = true by unfold inc; rw [bne, hcq]; rfl] at EF
            gi_wp2
            exact ⟨_, _, EF.out, D3.out, D4.out, WH.out⟩
          · rw [show (inc c' != r.count) = false by unfold inc; rw [bne, hcq]; rfl] at EF
            gi_wp2
            exact ⟨_, _, EF.out, D3.out, D4.out, rfl, Or.inl ⟨rfl, WH.out⟩⟩
      · have EF := Lib.hid (stW_ahead (f := f) (x := x') (c := c') (b := bb) (cnt := r.count) htn hfn)
        obtain ⟨h1, h2, h3, h4, h5⟩ := HX.out
        obtain ⟨WW, KK⟩ := ST J FJ x' c' S' S0 X hnX HEQ.out HDS.out HJ.out h1 h2 h3 h4 h5
        have WH := Lib.hid WW
        have KH := Lib.hid KK
        clear h1 h2 h3 h4 h5 WW KK
        rcases hcq : (wrap64 (c' + 1) == r.count) with _ | _
        · rw [show (inc c' != r.count) = true by unfold inc; rw [bne, hcq]; rfl] at EF
          gi_wp2
          refine ⟨fun _ h => (by cases h), ?_⟩
          gi_wp2
          exact ⟨_, _, EF.out, Gr.refl _ _, KH.out, WH.out⟩
        · rw [show (inc c' != r.count) = false by unfold inc; rw [bne, hcq]; rfl] at EF
          gi_wp2
          refine ⟨fun _ h => (by cases h), ?_⟩
          gi_wp2
          exact ⟨_, _, EF.out, Gr.refl _ _, KH.out, rfl, Or.inl ⟨rfl, WH.out⟩⟩
  case done =>
    rintro D ⟨y, c', bb⟩ S' X hD hSD hrun ⟨S0, he', hd, hj', _⟩ hg3 hk3 hDd
    have ZZ := Lib.hid (show (∃ S', Gr S W S' ∧ Kps (fun b => S b ∨ (b = rB ∨ b = sB ∨ b = fB ∨ b = tB)) W (X.putObj D (.deferred none)) ∧ Out J JX (run f x (btw fr t r.count 0 (s :: beh s (flat r s t (psd r s fr))))) S' (X.putObj D (.deferred none))) from by
      have nD : ¬ S0 D := fun z => hSD ((he' D).2 (Or.inl z))
      have kA : Kps (fun b => S b ∨ (b = rB ∨ b = sB ∨ b = fB ∨ b = tB)) W w3 := Kps.of_below hBW
      have kB' := kA.trans hk3 (fun b hb => by
        rcases hb with (z | z | z | z | z | z) | z
        · exact Or.inl (Or.inl z)
        · exact Or.inl (Or.inr (Or.inl z))
        · exact Or.inl (Or.inr (Or.inr (Or.inr (Or.inl z))))
        · exact Or.inl (Or.inr (Or.inr (Or.inr (Or.inr z))))
        · exact Or.inr (by omega)
        · exact Or.inr (by omega)
        · exact Or.inr (by omega))
      have kD : Kps (fun b => b = D) X (X.putObj D (.deferred none)) := Kps.put _ rfl
      have gS : Gr S W S0 := fun b hb => by
        rcases hg3 b ((he' b).2 (Or.inl hb)) with (z | z) | z
        · exact Or.inl z
        · exact absurd hb (hd b z)
        · exact Or.inr (by omega)
      obtain ⟨c2, e2, r1, r2⟩ := run_btw fr t r.count f (s :: beh s (flat r s t (psd r s fr))) x 0 true rfl
      rw [hrun] at r1
      simp only [Prod.mk.injEq] at r1
      obtain ⟨⟨r3, _, r4⟩, r5⟩ := r1
      refine ⟨S0, gS, kB'.trans kD (fun b e => Or.inr (by omega)), Or.inl ⟨r2 r5.symm, ?_⟩⟩
      rw [← r3]
      exact FJ.on _ _ _ _ hj' (kD.below (fun b e => by omega) (by have := hk3.size; omega)) (fun b hb => World.putObj_heap_other (fun e => nD (e ▸ hb))))
    clear hrun hj' hg3 hk3 he' hd
    gi_wp2
    refine ⟨by simp, .inl ⟨_, _, rfl, run_takeDeferred hDd, ?_⟩⟩
    exact ⟨_, results_none rfl _ _ _, ⟨_, rfl⟩, ZZ.out⟩
  case stop =>
    rintro D c ⟨y, c', bb⟩ S' X hD hSD hrun ⟨rfl, hx⟩ hg3 hk3 hDd
    have ZZ := Lib.hid (show (∃ S', Gr S W S' ∧ Kps (fun b => S b ∨ (b = rB ∨ b = sB ∨ b = fB ∨ b = tB)) W (X.putObj D (.deferred none)) ∧ Out J JX (run f x (btw fr t r.count 0 (s :: beh s (flat r s t (psd r s fr))))) S' (X.putObj D (.deferred none))) from by
      rcases hx with ⟨hb1, S0, he', hd, hj', _⟩ | ⟨hb1, S0, he', hd, hj', _⟩
      · replace hb1 : bb = true := hb1
        have nD : ¬ S0 D := fun z => hSD ((he' D).2 (Or.inl z))
        have kA : Kps (fun b => S b ∨ (b = rB ∨ b = sB ∨ b = fB ∨ b = tB)) W w3 := Kps.of_below hBW
        have kB' := kA.trans hk3 (fun b hb => by
          rcases hb with (z | z | z | z | z | z) | z
          · exact Or.inl (Or.inl z)
          · exact Or.inl (Or.inr (Or.inl z))
          · exact Or.inl (Or.inr (Or.inr (Or.inr (Or.inl z))))
          · exact Or.inl (Or.inr (Or.inr (Or.inr (Or.inr z))))
          · exact Or.inr (by omega)
          · exact Or.inr (by omega)
          · exact Or.inr (by omega))
        have kD : Kps (fun b => b = D) X (X.putObj D (.deferred none)) := Kps.put _ rfl
        have gS : Gr S W S0 := fun b hb => by
          rcases hg3 b ((he' b).2 (Or.inl hb)) with (z | z) | z
          · exact Or.inl z
          · exact absurd hb (hd b z)
          · exact Or.inr (by omega)
        obtain ⟨c2, e2, r1, r2⟩ := run_btw fr t r.count f (s :: beh s (flat r s t (psd r s fr))) x 0 true rfl
        rw [hrun] at r1
        simp only [Prod.mk.injEq] at r1
        obtain ⟨⟨r3, _, r4⟩, r5⟩ := r1
        refine ⟨S0, gS, kB'.trans kD (fun b e => Or.inr (by omega)), Or.inl ⟨by rw [← r4, hb1], ?_⟩⟩
        rw [← r3]
        exact FJ.on _ _ _ _ hj' (kD.below (fun b e => by omega) (by have := hk3.size; omega)) (fun b hb => World.putObj_heap_other (fun e => nD (e ▸ hb)))
      · replace hb1 : bb = false := hb1
        have nD : ¬ S0 D := fun z => hSD ((he' D).2 (Or.inl z))
        have kA : Kps (fun b => S b ∨ (b = rB ∨ b = sB ∨ b = fB ∨ b = tB)) W w3 := Kps.of_below hBW
        have kB' := kA.trans hk3 (fun b hb => by
          rcases hb with (z | z | z | z | z | z) | z
          · exact Or.inl (Or.inl z)
          · exact Or.inl (Or.inr (Or.inl z))
          · exact Or.inl (Or.inr (Or.inr (Or.inr (Or.inl z))))
          · exact Or.inl (Or.inr (Or.inr (Or.inr (Or.inr z))))
          · exact Or.inr (by omega)
          · exact Or.inr (by omega)
          · exact Or.inr (by omega))
        have kD : Kps (fun b => b = D) X (X.putObj D (.deferred none)) := Kps.put _ rfl
        have gS : Gr S W S0 := fun b hb => by
          rcases hg3 b ((he' b).2 (Or.inl hb)) with (z | z) | z
          · exact Or.inl z
          · exact absurd hb (hd b z)
          · exact Or.inr (by omega)
        obtain ⟨c2, e2, r1, r2⟩ := run_btw fr t r.count f (s :: beh s (flat r s t (psd r s fr))) x 0 true rfl
        rw [hrun] at r1
        simp only [Prod.mk.injEq] at r1
        obtain ⟨⟨r3, _, r4⟩, r5⟩ := r1
        refine ⟨S0, gS, kB'.trans kD (fun b e => Or.inr (by omega)), Or.inr ⟨by rw [← r4, hb1], ?_⟩⟩
        rw [← r3]
        exact FX.on _ _ _ _ hj' (kD.below (fun b e => by omega) (by have := hk3.size; omega)) (fun b hb => World.putObj_heap_other (fun e => nD (e ▸ hb))))
    clear hrun hx hg3 hk3
    gi_wp2
    refine ⟨by simp, .inl ⟨_, _, rfl, run_takeDeferred hDd, ?_⟩⟩
    exact ⟨_, results_none rfl _ _ _, ⟨_, rfl⟩, ZZ.out⟩
end Go.Proofs.YthdohcjingfpoaaGreatDoor
namespace Go.Proofs.YthdohcjingfpoaaGreatDoor
open Go.RowKit Cal Txt

/-- What is wrong with a rule, or a start. -/
def sf (r : Rl) (s : Int) : Int := if rf r = 0 then (if 1 ≤ s ∧ s ≤ 109573 then 0 else 1) else rf r
/-- Up to where: Until, too. -/
def tl (r : Rl) (t : Int) : Int := if r.till = 0 then t else min t r.till
/-- The days of a rule from fr to t, as they are handed out. -/
def btL (r : Rl) (s fr t : Int) : List Int := btw fr (tl r t) r.count 0 (s :: beh s (flat r s (tl r t) (psd r s fr)))
/-- What between answers. -/
def BetN (w : World) (n0 : Nat) (r : Rl) (s fr t : Int) (e : Ending) (w' : World) : Prop :=
  Below w.heap.size w w' ∧ ((sf r s ≠ 0 ∧ e = .returned (.tuple #[.nilFunc, fault (sf r s)])) ∨
    (sf r s = 0 ∧ w.heap.size + 4 ≤ w'.heap.size ∧ ∃ lb, e = .returned (.tuple #[.func (.func 264) #[] lb, .nilIface]) ∧ Itr Tryz.prog 264 lb (btL r s fr t) n0 w' (fun b => w.heap.size ≤ b ∧ b < w.heap.size + 4)))
def BetA (w : World) (r : Rl) (s fr t : Int) (e : Ending) (w' : World) : Prop := BetN w w.heap.size r s fr t e w'
theorem fault_ne {k : Int} (h : k ≠ 0) : fault k = .iface 86 (.int .i64 k) := if_neg h
set_option maxRecDepth 100000 in
set_option maxHeartbeats 4000000 in
theorem between_env (n0 : Nat) (r : Rl) (v : Value) (s fr t : Int) (w : World) (hE : Env n0 w v r) (hfr : fr ≤ s ∨ fr ≤ 9223372036854775807) :
    Calls Tryz.prog 254 #[v, .int .i64 s, .int .i64 fr, .int .i64 t] w (BetN w n0 r s fr t) := by
  have n0w := hE.1
  have hv := (hE.2 w (Below.refl _ _)).1
  obtain ⟨am, ad, aw, ap, cm, cd, cw, cp, rfl⟩ := hv.form
  obtain ⟨W, hW, hB, hz, h0, h1, h2, h3⟩ := four_new w r am ad aw ap cm cd cw cp s fr t
  have EV := Lib.hid hE
  have KC := Lib.hid (check_any r _ W (hv.on hB))
  have G1 : Hid (∀ X, Below W.heap.size W X → RlB X w.heap.size r am ad aw ap cm cd cw cp ∧ Boxed X (w.heap.size + 1) 3 (.int .i64 s) ∧ Boxed X (w.heap.size + 2) 3 (.int .i64 fr) ∧ Boxed X (w.heap.size + 3) 3 (.int .i64 t) ∧ Below w.heap.size w X) := Lib.hid (fun X q => ⟨(q.block _ (by omega)).trans h0, bxd_same h1 (q.block _ h1.lt), bxd_same h2 (q.block _ h2.lt), bxd_same h3 (q.block _ h3.lt), hB.trans (q.mono hB.size)⟩)
  have HW := Lib.hid hW
  clear h0 h1 h2 h3 hv hE hW hB
  go_enter Tryz.func254, Tryz.ntmps254
  go_wp2_with fail
  rw [← HW.out]
  refine KC.out.mono ?_
  rintro e w1 ⟨rfl, hb⟩
  obtain ⟨b1, b2, b3, b4, hB1⟩ := G1.out w1 hb
  have z1 : w.heap.size + 4 ≤ w1.heap.size := by have := hb.size; omega
  clear KC G1 HW hb
  by_cases hrf : rf r = 0
  · have c2 := b2.cell
    rw [hrf, show fault 0 = Value.nilIface from rfl]
    by_cases s1 : 1 ≤ s
    · by_cases s2 : s ≤ 109573
      · have SF : Hid (sf r s = 0) := Lib.hid ((if_pos hrf).trans (if_pos ⟨s1, s2⟩))
        have he := (rf_nums hrf).2
        have t1 : decide (s < 1) = false := decide_eq_false (by omega)
        have t2 : decide (s > 109573) = false := decide_eq_false (by omega)
        clear hrf
        go_wp2_with fail
        go_big_quiet ((go_at_call 22; exact Calls.quiet_of_same (last_any _)))
        obtain ⟨X, hX⟩ : ∃ X, X = w1.drewN nq := ⟨_, rfl⟩
        have hBX : Below w1.heap.size w1 X := by rw [hX]; exact below_drewN (Below.refl _ _) _
        rw [← hX]
        clear hX c2
        replace b1 : RlB X w.heap.size r am ad aw ap cm cd cw cp := (hBX.block _ (by omega)).trans b1
        replace b2 := bxd_same b2 (hBX.block _ b2.lt)
        replace b3 := bxd_same b3 (hBX.block _ b3.lt)
        replace b4 := bxd_same b4 (hBX.block _ b4.lt)
        replace hB1 := hB1.trans (hBX.mono hB1.size)
        have zX : w.heap.size + 4 ≤ X.heap.size := Nat.le_trans z1 hBX.size
        clear hBX
        obtain ⟨_, _, _, q3, _⟩ := b1.box
        by_cases hti : r.till = 0
        · have ht0 : (r.till == 0) = true := by simpa using hti
          have TL : Hid (tl r t = t) := Lib.hid (if_pos hti)
          have IT := Lib.hid ((bet_itr r am ad aw ap cm cd cw cp s fr t n0 X w.heap.size (w.heap.size + 1) (w.heap.size + 2) (w.heap.size + 3) (EV.out.on (hB1.mono n0w)) b1 b2 b3 b4 he s1 hfr).more (T' := fun b => w.heap.size ≤ b ∧ b < w.heap.size + 4) (fun b hb => by omega))
          have HB := Lib.hid hB1
          clear hti b1 b2 b3 b4 hB1
          go_wp2
          exact bodyPost_ret (v := .tuple #[.func (.func 264) #[] #[.pointer (some ⟨w.heap.size, 0, none⟩), .pointer (some ⟨w.heap.size + 1, 0, none⟩), .pointer (some ⟨w.heap.size + 2, 0, none⟩), .pointer (some ⟨w.heap.size + 3, 0, none⟩)], .nilIface]) (by simp [results, Tryz.results254, go_sem]) rfl ⟨HB.out, Or.inr ⟨SF.out, zX, _, rfl, by unfold btL; rw [TL.out]; exact IT.out⟩⟩
        · have ht0 : (r.till == 0) = false := by simpa using hti
          have TL : Hid (tl r t = min t r.till) := Lib.hid (if_neg hti)
          have c4 := b4.cell
          have f4 := b4.frozen
          have W5 : Hid (∀ u : Int, u = min t r.till → (∀ b, Below w.heap.size w (X.setCell ⟨w.heap.size + 3, 0, none⟩ (.int .i64 u)) ∧ w.heap.size + 4 ≤ (X.setCell ⟨w.heap.size + 3, 0, none⟩ (.int .i64 u)).heap.size ∧ (b = 0 → Itr Tryz.prog 264 #[.pointer (some ⟨w.heap.size, 0, none⟩), .pointer (some ⟨w.heap.size + 1, 0, none⟩), .pointer (some ⟨w.heap.size + 2, 0, none⟩), .pointer (some ⟨w.heap.size + 3, 0, none⟩)] (btL r s fr t) n0 (X.setCell ⟨w.heap.size + 3, 0, none⟩ (.int .i64 u)) (fun b => w.heap.size ≤ b ∧ b < w.heap.size + 4)))) := Lib.hid (fun u hu b => by
            have hB2 : Below w.heap.size w (X.setCell ⟨w.heap.size + 3, 0, none⟩ (.int .i64 u)) := hB1.setCell (by show w.heap.size ≤ w.heap.size + 3; omega) _
            have ne : ∀ {b : Nat}, b ≠ w.heap.size + 3 → (X.setCell ⟨w.heap.size + 3, 0, none⟩ (.int .i64 u)).heap[b]? = X.heap[b]? := fun h => Below.heap_setCell _ _ _ _ h
            refine ⟨hB2, by simpa [World.setCell] using zX, fun _ => ?_⟩
            have IT := (bet_itr r am ad aw ap cm cd cw cp s fr u n0 (X.setCell ⟨w.heap.size + 3, 0, none⟩ (.int .i64 u)) w.heap.size (w.heap.size + 1) (w.heap.size + 2) (w.heap.size + 3) (EV.out.on (hB2.mono n0w)) ((ne (by omega)).trans b1) (bxd_same b2 (ne (by omega))) (bxd_same b3 (ne (by omega))) (b4.set _) he s1 hfr).more (T' := fun b => w.heap.size ≤ b ∧ b < w.heap.size + 4) (fun b hb => by omega)
            unfold btL
            rw [TL.out, ← hu]
            exact IT)
          clear hti b1 b2 b3 b4 hB1
          by_cases hmn : t ≤ r.till
          · have M1 : min t r.till = t := Int.min_eq_left hmn
            obtain ⟨g1, g2, g3⟩ := W5.out t M1.symm 0
            have H1 := Lib.hid g1
            have H2 := Lib.hid g2
            have H3 := Lib.hid (g3 rfl)
            clear g1 g2 g3 W5 M1
            go_wp2
            exact bodyPost_ret (v := .tuple #[.func (.func 264) #[] #[.pointer (some ⟨w.heap.size, 0, none⟩), .pointer (some ⟨w.heap.size + 1, 0, none⟩), .pointer (some ⟨w.heap.size + 2, 0, none⟩), .pointer (some ⟨w.heap.size + 3, 0, none⟩)], .nilIface]) (by simp [results, Tryz.results254, go_sem]) rfl ⟨H1.out, Or.inr ⟨SF.out, H2.out, _, rfl, H3.out⟩⟩
          · have M1 : min t r.till = r.till := Int.min_eq_right (by omega)
            obtain ⟨g1, g2, g3⟩ := W5.out r.till M1.symm 0
            have H1 := Lib.hid g1
            have H2 := Lib.hid g2
            have H3 := Lib.hid (g3 rfl)
            clear g1 g2 g3 W5 M1
            go_wp2
            exact bodyPost_ret (v := .tuple #[.func (.func 264) #[] #[.pointer (some ⟨w.heap.size, 0, none⟩), .pointer (some ⟨w.heap.size + 1, 0, none⟩), .pointer (some ⟨w.heap.size + 2, 0, none⟩), .pointer (some ⟨w.heap.size + 3, 0, none⟩)], .nilIface]) (by simp [results, Tryz.results254, go_sem]) rfl ⟨H1.out, Or.inr ⟨SF.out, H2.out, _, rfl, H3.out⟩⟩
      · have SF : Hid (sf r s = 1) := Lib.hid ((if_pos hrf).trans (if_neg (by omega)))
        have t1 : decide (s < 1) = false := decide_eq_false (by omega)
        have t2 : decide (s > 109573) = true := decide_eq_true (by omega)
        have HB := Lib.hid hB1
        clear hrf hB1 b1 b2 b3 b4
        go_wp2_with fail
        go_big_quiet ((go_at_call 22; exact Calls.quiet_of_same (last_any _)))
        go_wp2
        exact bodyPost_ret (v := .tuple #[.nilFunc, errRange]) (by simp [results, Tryz.results254, go_sem]) rfl ⟨below_drewN HB.out _, Or.inl ⟨by rw [SF.out]; decide, by rw [SF.out]; rfl⟩⟩
    · have SF : Hid (sf r s = 1) := Lib.hid ((if_pos hrf).trans (if_neg (by omega)))
      have t1 : decide (s < 1) = true := decide_eq_true (by omega)
      have HB := Lib.hid hB1
      clear hrf hB1 b1 b2 b3 b4
      go_wp2_with fail
      go_big_quiet (fail)
      go_wp2
      exact bodyPost_ret (v := .tuple #[.nilFunc, errRange]) (by simp [results, Tryz.results254, go_sem]) rfl ⟨below_drewN HB.out _, Or.inl ⟨by rw [SF.out]; decide, by rw [SF.out]; rfl⟩⟩
  · have SF : Hid (sf r s = rf r) := Lib.hid (if_neg hrf)
    rw [fault_ne hrf]
    have HF := Lib.hid hrf
    have HB := Lib.hid hB1
    clear hrf hB1 b1 b2 b3 b4
    go_wp2
    exact bodyPost_ret (v := .tuple #[.nilFunc, .iface 86 (.int .i64 (rf r))]) (by simp [results, Tryz.results254, go_sem]) rfl ⟨HB.out, Or.inl ⟨by rw [SF.out]; exact HF.out, by rw [SF.out, fault_ne HF.out]⟩⟩
theorem between_any (r : Rl) (v : Value) (s fr t : Int) (w : World) (hv : RuleIn w v r) (hT : Tab w) (hfr : fr ≤ s ∨ fr ≤ 9223372036854775807) :
    Calls Tryz.prog 254 #[v, .int .i64 s, .int .i64 fr, .int .i64 t] w (BetA w r s fr t) := between_env w.heap.size r v s fr t w (Env.of hv hT) hfr
end Go.Proofs.YthdohcjingfpoaaGreatDoor
namespace Go.Proofs.YthdohcjingfpoaaGreatDoor
open Go.RowKit Go.Shelf Cal Txt
attribute [local go_sem] Oper.semAt_some

/-- An append inside a fence, and where the row then lies. -/
theorem append_at {F : Fence} {n : Nat} {P : Program} (w : World) {ops : Array Oper} {rest : List Oper} {o : Oper} {a : Act} {Q : Exit → Act → World → Prop}
    (hg : o.guard = none) (s x : Operand) (t : TypeId) (hop : o.op = Op.call { callee := Callee.builtin Builtin.append, args := #[s, x], argTypes := #[t, t] })
    (base : Nat) (e : TypeId) (i : TypeInfo) (z : Value) (size bytes : Nat) (h1 : P.underlying t = some (.slice e)) (h2 : P.info? e = some i) (h3 : i.zero = some z) (h4 : i.size = size) (h5 : i.bytes = bytes) (h6 : z.cells.size = size) (h7 : 0 < size)
    (v : Value) (k : Nat) (xs : List Value) (hs : a.eval s = v) (hown : w.ownsRow base e size v k xs) (ad : Addr) (m c : Nat) (news : List Value) (hx : a.eval x = .slice (some ad) m c) (hn : news.length = m * size)
    (hc : ∀ j u, news[j]? = some u → w.cell? (ad.add j) = some u) (h1c : ∀ u ∈ news, u.oneCell' = true) (b1 : k + m ≤ maxLen) (b2 : (k + m) * bytes ≤ 140737488355328) (b3 : base ≤ w.heap.size)
    (hK : ∀ v' w', w'.ownsRow base e size v' (k + m) (xs ++ news) → w.grownBy w' v.ownBlock → (v'.ownBlock = v.ownBlock ∨ v'.ownBlock = some w.heap.size) → wpListIn F n P ops Q rest (a.put o.dst v') w') :
    wpListIn F n P ops Q (o :: rest) a w := by
  refine wpListIn_plain hg fun K hK' => ?_
  obtain ⟨v', w', hrun, r1, r2, _, r3⟩ := run_append_own_at (P := P) w base t o.type e i z size bytes h1 h2 h3 h4 h5 h6 h7 v k xs hown ad m c news hn hc h1c b1 b2 b3
  unfold Oper.wpIn
  refine ⟨?_, ?_⟩
  · simp [Oper.about, hop, resolve, Target.leads, Sem.run_pure]
  · rw [Oper.semAt_plain F _ _ (by rw [hop]; intro c hc'; cases hc')]
    simp [execOp, hop, resolve, invoke, builtin, hs, hx, hrun, Result.andThen]
    exact hK' _ _ (hK v' w' r1 r2 r3)
theorem own_same {W W' : World} {base : Nat} {e : TypeId} {size : Nat} {v : Value} {n : Nat} {xs : List Value} (h : W.ownsRow base e size v n xs) (q : ∀ g, v.ownBlock = some g → W'.heap[g]? = W.heap[g]?) : W'.ownsRow base e size v n xs := by
  refine ⟨h.1, ?_⟩
  rcases h.2 with a | ⟨g, cap, cur, rfl, hb, hg, r⟩
  · exact Or.inl a
  · exact Or.inr ⟨g, cap, cur, rfl, hb, (q g rfl).trans hg, r⟩
/-- A list that is gathered, until there are n. -/
def stM (n : Int) (l : List Int) (d : Int) : List Int × Bool := (l ++ [d], decide (((l.length + 1 : Nat) : Int) ≠ n))
theorem run_most (n : Int) : ∀ (xs l : List Int), (l.length : Int) < n → (run (stM n) l xs).1 = l ++ xs.take (n - l.length).toNat
  | [], l, h => by simp [run_nil]
  | d :: xs, l, h => by
    by_cases k : ((l.length + 1 : Nat) : Int) = n
    · rw [run_no (show stM n l d = (l ++ [d], false) by unfold stM; rw [decide_eq_false (by simpa using k)])]
      rw [show (n - (l.length : Int)).toNat = 1 by omega]
      simp
    · rw [run_yes (show stM n l d = (l ++ [d], true) by unfold stM; rw [decide_eq_true k])]
      rw [run_most n xs (l ++ [d]) (by simp; omega), show (n - (l.length : Int)).toNat = (n - ((l ++ [d]).length : Int)).toNat + 1 by simp; omega]
      simp
/-- The list lies in a box, its row is its own. -/
def MoI (n : Int) (nB lB n1 : Nat) (bd : List Int → Prop) (l : List Int) (S : Nat → Prop) (W : World) : Prop :=
  bd l ∧ ∃ v, (∀ b, S b ↔ (b = nB ∨ b = lB ∨ v.ownBlock = some b)) ∧ Boxed W nB 3 (.int .i64 n) ∧ Boxed W lB 34 v ∧ W.ownsRow n1 3 1 v l.length (nums l)
theorem MoI.frm {n : Int} {nB lB n1 n0 : Nat} {bd : List Int → Prop} (h1 : n0 ≤ nB) (h2 : n0 ≤ lB) (h3 : n0 ≤ n1) : Frm n0 (MoI n nB lB n1 bd) := by
  refine ⟨fun l S W h b hb => ?_, fun l S W W' h q same => ?_⟩
  · obtain ⟨_, v, e, c1, c2, c3⟩ := h
    rcases (e b).1 hb with rfl | rfl | z
    · exact ⟨h1, c1.lt⟩
    · exact ⟨h2, c2.lt⟩
    · have := c3.lt b z; exact ⟨by omega, this.2⟩
  · obtain ⟨b0, v, e, c1, c2, c3⟩ := h
    exact ⟨b0, v, e, bxd_same c1 (same _ ((e _).2 (Or.inl rfl))), bxd_same c2 (same _ ((e _).2 (Or.inr (Or.inl rfl)))), own_same c3 (fun g hg => same g ((e _).2 (Or.inr (Or.inr hg))))⟩
/-- What a step of gathering leaves. -/
theorem mo_step (n : Int) (z : Nat) (l : List Int) (d : Int) (S : Nat → Prop) (X w1 : World) (v : Value) (g' cap' : Nat) (he : ∀ b, S b ↔ (b = z ∨ b = z + 1 ∨ v.ownBlock = some b)) (c1 : Boxed X z 3 (.int .i64 n)) (c2 : Boxed X (z + 1) 34 v) (c3 : X.ownsRow (z + 2) 3 1 v l.length (nums l))
    (hown : w1.ownsRow (z + 2) 3 1 (.slice (some ⟨g', 0, none⟩) (l.length + 1) cap') (l.length + 1) (nums l ++ [.int .i64 d])) (hgrow : (X.alloc (.cells #[.int .i64 d] 3)).grownBy w1 v.ownBlock) (hat : (Value.slice (some ⟨g', 0, none⟩) (l.length + 1) cap').ownBlock = v.ownBlock ∨ (Value.slice (some ⟨g', 0, none⟩) (l.length + 1) cap').ownBlock = some (X.alloc (.cells #[.int .i64 d] 3)).heap.size) :
    Boxed w1 (z + 1) 34 v ∧ Boxed w1 z 3 (.int .i64 n) ∧ ∀ bd : List Int → Prop, bd (l ++ [d]) → ∃ S', Gr S X S' ∧ Kps S X (w1.setCell ⟨z + 1, 0, none⟩ (.slice (some ⟨g', 0, none⟩) (l.length + 1) cap')) ∧ MoI n z (z + 1) (z + 2) bd (l ++ [d]) S' (w1.setCell ⟨z + 1, 0, none⟩ (.slice (some ⟨g', 0, none⟩) (l.length + 1) cap')) := by
  have n1 : some z ≠ v.ownBlock := fun e => by have := (c3.lt z e.symm).1; omega
  have n2 : some (z + 1) ≠ v.ownBlock := fun e => by have := (c3.lt (z + 1) e.symm).1; omega
  have k1 : Boxed w1 z 3 (.int .i64 n) := (c1.alloc _).kept hgrow n1
  have k2 : Boxed w1 (z + 1) 34 v := (c2.alloc _).kept hgrow n2
  have g1 : z + 2 ≤ g' := (hown.lt g' rfl).1
  refine ⟨k2, k1, fun bd hbd => ⟨fun b => b = z ∨ b = z + 1 ∨ b = g', ?_, ?_, hbd, _, fun b => ?_, k1.other (by omega) _, k2.set _, ?_⟩⟩
  · rintro b (rfl | rfl | rfl)
    · exact Or.inl ((he _).2 (Or.inl rfl))
    · exact Or.inl ((he _).2 (Or.inr (Or.inl rfl)))
    · rcases hat with q | q
      · exact Or.inl ((he _).2 (Or.inr (Or.inr q.symm)))
      · refine Or.inr ?_
        have : b = X.heap.size + 1 := by simpa [Value.ownBlock] using q
        omega
  · have kA : Kps S X (X.alloc (.cells #[.int .i64 d] 3)) := Kps.of_below ((Below.refl _ _).alloc (Nat.le_refl _) _)
    have kB : Kps (fun b => v.ownBlock = some b) (X.alloc (.cells #[.int .i64 d] 3)) w1 := ⟨hgrow.os, hgrow.tape, hgrow.output, hgrow.size, fun b hb hS => hgrow.block b hb (fun e => hS e.symm)⟩
    have kC : Kps (fun b => b = z + 1) w1 (w1.setCell ⟨z + 1, 0, none⟩ (.slice (some ⟨g', 0, none⟩) (l.length + 1) cap')) := Kps.set _ rfl
    exact (kA.trans kB (fun b e => Or.inl ((he b).2 (Or.inr (Or.inr e))))).trans kC (fun b e => Or.inl ((he b).2 (Or.inr (Or.inl e))))
  · show (b = z ∨ b = z + 1 ∨ b = g') ↔ (b = z ∨ b = z + 1 ∨ some g' = some b)
    simp [eq_comm]
  · rw [List.length_append, nums_snoc]
    exact hown.kept (grownBy_setCell' w1 (z + 1) _) (Or.inr (fun e => by have : g' = z + 1 := by simpa [Value.ownBlock] using e
                                                                         omega))
theorem nums_len (l : List Int) : (nums l).length = l.length := by simp [nums]
end Go.Proofs.YthdohcjingfpoaaGreatDoor
