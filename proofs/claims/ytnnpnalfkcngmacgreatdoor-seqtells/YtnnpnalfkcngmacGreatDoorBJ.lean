/-
  What is proved here: what package seq's between answers (a contract over the translation).
  What is proved here: what package seq's atMost lists (a contract over the translation).
  What is proved here: what package seq's First answers (a contract over the translation).
  What is proved here: what package seq's Between, Has and Count answer (contracts over the translation).
-/
import Derived.Test.YtnnpnalfkcngmacGreatDoorSqBet
import Derived.Maps.AppendAt
import Derived.Deep.RegionHeld3
namespace Go.Proofs.YtnnpnalfkcngmacGreatDoor
open Go.RowKit Cal Txt

/-- What is wrong with a rule, or a start. -/
def sf (r : Rl) (s : Int) : Int := if rf r = 0 then (if 1 ≤ s ∧ s ≤ 109573 then 0 else 1) else rf r
/-- Up to where: Until, too. -/
def tl (r : Rl) (t : Int) : Int := if r.till = 0 then t else min t r.till
/-- The days of a rule from fr to t, as they are handed out. -/
def btL (r : Rl) (s fr t : Int) : List Int := btw fr (tl r t) r.count 0 (s :: beh s (flat r s (tl r t) (psd r s fr)))
/-- What between answers. -/
def BetN (w : World) (n0 : Nat) (r : Rl) (s fr t : Int) (e : Ending) (w' : World) : Prop :=
  Below w.heap.size w w' ∧ ((sf r s ≠ 0 ∧ e = .returned (.tuple #[.nilFunc, fault (sf r s)])) ∨
    (sf r s = 0 ∧ w.heap.size + 4 ≤ w'.heap.size ∧ ∃ lb, e = .returned (.tuple #[.func (.func 30) #[] lb, .nilIface]) ∧ Itr Tryz.prog 30 lb (btL r s fr t) n0 w' (fun b => w.heap.size ≤ b ∧ b < w.heap.size + 4)))
def BetA (w : World) (r : Rl) (s fr t : Int) (e : Ending) (w' : World) : Prop := BetN w w.heap.size r s fr t e w'
theorem fault_ne {k : Int} (h : k ≠ 0) : fault k = .iface 61 (.int .i64 k) := if_neg h
set_option maxRecDepth 100000 in
set_option maxHeartbeats 4000000 in
theorem between_env (n0 : Nat) (r : Rl) (v : Value) (s fr t : Int) (w : World) (hE : Env n0 w v r) (hfr : fr ≤ s ∨ fr ≤ 9223372036854775807) :
    Calls Tryz.prog 21 #[v, .int .i64 s, .int .i64 fr, .int .i64 t] w (BetN w n0 r s fr t) := by
  have n0w := hE.1
  have hv := (hE.2 w (Below.refl _ _)).1
  obtain ⟨am, ad, aw, ap, cm, cd, cw, cp, rfl⟩ := hv.form
  obtain ⟨W, hW, hB, hz, h0, h1, h2, h3⟩ := four_new w r am ad aw ap cm cd cw cp s fr t
  have EV := Lib.hid hE
  have KC := Lib.hid (check_any r _ W (hv.on hB))
  have G1 : Hid (∀ X, Below W.heap.size W X → RlB X w.heap.size r am ad aw ap cm cd cw cp ∧ Boxed X (w.heap.size + 1) 3 (.int .i64 s) ∧ Boxed X (w.heap.size + 2) 3 (.int .i64 fr) ∧ Boxed X (w.heap.size + 3) 3 (.int .i64 t) ∧ Below w.heap.size w X) := Lib.hid (fun X q => ⟨(q.block _ (by omega)).trans h0, bxd_same h1 (q.block _ h1.lt), bxd_same h2 (q.block _ h2.lt), bxd_same h3 (q.block _ h3.lt), hB.trans (q.mono hB.size)⟩)
  have HW := Lib.hid hW
  clear h0 h1 h2 h3 hv hE hW hB
  go_enter Tryz.func21, Tryz.ntmps21
  go_wp2_with fail
  rw [← HW.out]
  refine KC.out.mono ?_
  rintro e w1 ⟨rfl, hb⟩
  obtain ⟨b1, b2, b3, b4, hB1⟩ := G1.out w1 hb
  have z1 : w.heap.size + 4 ≤ w1.heap.size := by have := hb.size; omega
  clear KC G1 HW hb
  by_cases hrf : rf r = 0
  · have c2 := b2.cell
    rw [hrf, show fault 0 = Value.nilIface from rfl]
    by_cases s1 : 1 ≤ s
    · by_cases s2 : s ≤ 109573
      · have SF : Hid (sf r s = 0) := Lib.hid ((if_pos hrf).trans (if_pos ⟨s1, s2⟩))
        have he := (rf_nums hrf).2
        have t1 : decide (s < 1) = false := decide_eq_false (by omega)
        have t2 : decide (s > 109573) = false := decide_eq_false (by omega)
        clear hrf
        go_wp2_with fail
        go_big_quiet ((go_at_call 22; exact Calls.quiet_of_same (last_any _)))
        obtain ⟨X, hX⟩ : ∃ X, X = w1.drewN nq := ⟨_, rfl⟩
        have hBX : Below w1.heap.size w1 X := by rw [hX]; exact below_drewN (Below.refl _ _) _
        rw [← hX]
        clear hX c2
        replace b1 : RlB X w.heap.size r am ad aw ap cm cd cw cp := (hBX.block _ (by omega)).trans b1
        replace b2 := bxd_same b2 (hBX.block _ b2.lt)
        replace b3 := bxd_same b3 (hBX.block _ b3.lt)
        replace b4 := bxd_same b4 (hBX.block _ b4.lt)
        replace hB1 := hB1.trans (hBX.mono hB1.size)
        have zX : w.heap.size + 4 ≤ X.heap.size := Nat.le_trans z1 hBX.size
        clear hBX
        obtain ⟨_, _, _, q3, _⟩ := b1.box
        by_cases hti : r.till = 0
        · have ht0 : (r.till == 0) = true := by simpa using hti
          have TL : Hid (tl r t = t) := Lib.hid (if_pos hti)
          have IT := Lib.hid ((bet_itr r am ad aw ap cm cd cw cp s fr t n0 X w.heap.size (w.heap.size + 1) (w.heap.size + 2) (w.heap.size + 3) (EV.out.on (hB1.mono n0w)) b1 b2 b3 b4 he s1 hfr).more (T' := fun b => w.heap.size ≤ b ∧ b < w.heap.size + 4) (fun b hb => by omega))
          have HB := Lib.hid hB1
          clear hti b1 b2 b3 b4 hB1
          go_wp2
          exact bodyPost_ret (v := .tuple #[.func (.func 30) #[] #[.pointer (some ⟨w.heap.size, 0, none⟩), .pointer (some ⟨w.heap.size + 1, 0, none⟩), .pointer (some ⟨w.heap.size + 2, 0, none⟩), .pointer (some ⟨w.heap.size + 3, 0, none⟩)], .nilIface]) (by simp [results, Tryz.results21, go_sem]) rfl ⟨HB.out, Or.inr ⟨SF.out, zX, _, rfl, by unfold btL; rw [TL.out]; exact IT.out⟩⟩
        · have ht0 : (r.till == 0) = false := by simpa using hti
          have TL : Hid (tl r t = min t r.till) := Lib.hid (if_neg hti)
          have c4 := b4.cell
          have f4 := b4.frozen
          have W5 : Hid (∀ u : Int, u = min t r.till → (∀ b, Below w.heap.size w (X.setCell ⟨w.heap.size + 3, 0, none⟩ (.int .i64 u)) ∧ w.heap.size + 4 ≤ (X.setCell ⟨w.heap.size + 3, 0, none⟩ (.int .i64 u)).heap.size ∧ (b = 0 → Itr Tryz.prog 30 #[.pointer (some ⟨w.heap.size, 0, none⟩), .pointer (some ⟨w.heap.size + 1, 0, none⟩), .pointer (some ⟨w.heap.size + 2, 0, none⟩), .pointer (some ⟨w.heap.size + 3, 0, none⟩)] (btL r s fr t) n0 (X.setCell ⟨w.heap.size + 3, 0, none⟩ (.int .i64 u)) (fun b => w.heap.size ≤ b ∧ b < w.heap.size + 4)))) := Lib.hid (fun u hu b => by
            have hB2 : Below w.heap.size w (X.setCell ⟨w.heap.size + 3, 0, none⟩ (.int .i64 u)) := hB1.setCell (by show w.heap.size ≤ w.heap.size + 3; omega) _
            have ne : ∀ {b : Nat}, b ≠ w.heap.size + 3 → (X.setCell ⟨w.heap.size + 3, 0, none⟩ (.int .i64 u)).heap[b]? = X.heap[b]? := fun h => Below.heap_setCell _ _ _ _ h
            refine ⟨hB2, by simpa [World.setCell] using zX, fun _ => ?_⟩
            have IT := (bet_itr r am ad aw ap cm cd cw cp s fr u n0 (X.setCell ⟨w.heap.size + 3, 0, none⟩ (.int .i64 u)) w.heap.size (w.heap.size + 1) (w.heap.size + 2) (w.heap.size + 3) (EV.out.on (hB2.mono n0w)) ((ne (by omega)).trans b1) (bxd_same b2 (ne (by omega))) (bxd_same b3 (ne (by omega))) (b4.set _) he s1 hfr).more (T' := fun b => w.heap.size ≤ b ∧ b < w.heap.size + 4) (fun b hb => by omega)
            unfold btL
            rw [TL.out, ← hu]
            exact IT)
          clear hti b1 b2 b3 b4 hB1
          by_cases hmn : t ≤ r.till
          · have M1 : min t r.till = t := Int.min_eq_left hmn
            obtain ⟨g1, g2, g3⟩ := W5.out t M1.symm 0
            have H1 := Lib.hid g1
            have H2 := Lib.hid g2
            have H3 := Lib.hid (g3 rfl)
            clear g1 g2 g3 W5 M1
            go_wp2
            exact bodyPost_ret (v := .tuple #[.func (.func 30) #[] #[.pointer (some ⟨w.heap.size, 0, none⟩), .pointer (some ⟨w.heap.size + 1, 0, none⟩), .pointer (some ⟨w.heap.size + 2, 0, none⟩), .pointer (some ⟨w.heap.size + 3, 0, none⟩)], .nilIface]) (by simp [results, Tryz.results21, go_sem]) rfl ⟨H1.out, Or.inr ⟨SF.out, H2.out, _, rfl, H3.out⟩⟩
          · have M1 : min t r.till = r.till := Int.min_eq_right (by omega)
            obtain ⟨g1, g2, g3⟩ := W5.out r.till M1.symm 0
            have H1 := Lib.hid g1
            have H2 := Lib.hid g2
            have H3 := Lib.hid (g3 rfl)
            clear g1 g2 g3 W5 M1
            go_wp2
            exact bodyPost_ret (v := .tuple #[.func (.func 30) #[] #[.pointer (some ⟨w.heap.size, 0, none⟩), .pointer (some ⟨w.heap.size + 1, 0, none⟩), .pointer (some ⟨w.heap.size + 2, 0, none⟩), .pointer (some ⟨w.heap.size + 3, 0, none⟩)], .nilIface]) (by simp [results, Tryz.results21, go_sem]) rfl ⟨H1.out, Or.inr ⟨SF.out, H2.out, _, rfl, H3.out⟩⟩
      · have SF : Hid (sf r s = 1) := Lib.hid ((if_pos hrf).trans (if_neg (by omega)))
        have t1 : decide (s < 1) = false := decide_eq_false (by omega)
        have t2 : decide (s > 109573) = true := decide_eq_true (by omega)
        have HB := Lib.hid hB1
        clear hrf hB1 b1 b2 b3 b4
        go_wp2_with fail
        go_big_quiet ((go_at_call 22; exact Calls.quiet_of_same (last_any _)))
        go_wp2
        exact bodyPost_ret (v := .tuple #[.nilFunc, errRange]) (by simp [results, Tryz.results21, go_sem]) rfl ⟨below_drewN HB.out _, Or.inl ⟨by rw [SF.out]; decide, by rw [SF.out]; rfl⟩⟩
    · have SF : Hid (sf r s = 1) := Lib.hid ((if_pos hrf).trans (if_neg (by omega)))
      have t1 : decide (s < 1) = true := decide_eq_true (by omega)
      have HB := Lib.hid hB1
      clear hrf hB1 b1 b2 b3 b4
      go_wp2_with fail
      go_big_quiet (fail)
      go_wp2
      exact bodyPost_ret (v := .tuple #[.nilFunc, errRange]) (by simp [results, Tryz.results21, go_sem]) rfl ⟨below_drewN HB.out _, Or.inl ⟨by rw [SF.out]; decide, by rw [SF.out]; rfl⟩⟩
  · have SF : Hid (sf r s = rf r) := Lib.hid (if_neg hrf)
    rw [fault_ne hrf]
    have HF := Lib.hid hrf
    have HB := Lib.hid hB1
    clear hrf hB1 b1 b2 b3 b4
    go_wp2
    exact bodyPost_ret (v := .tuple #[.nilFunc, .iface 61 (.int .i64 (rf r))]) (by simp [results, Tryz.results21, go_sem]) rfl ⟨HB.out, Or.inl ⟨by rw [SF.out]; exact HF.out, by rw [SF.out, fault_ne HF.out]⟩⟩
theorem between_any (r : Rl) (v : Value) (s fr t : Int) (w : World) (hv : RuleIn w v r) (hT : Tab w) (hfr : fr ≤ s ∨ fr ≤ 9223372036854775807) :
    Calls Tryz.prog 21 #[v, .int .i64 s, .int .i64 fr, .int .i64 t] w (BetA w r s fr t) := between_env w.heap.size r v s fr t w (Env.of hv hT) hfr
end Go.Proofs.YtnnpnalfkcngmacGreatDoor
namespace Go.Proofs.YtnnpnalfkcngmacGreatDoor
open Go.RowKit Go.Shelf Cal Txt
attribute [local go_sem] Oper.semAt_some

/-- An append inside a fence, and where the row then lies. -/
theorem append_at {F : Fence} {n : Nat} {P : Program} (w : World) {ops : Array Oper} {rest : List Oper} {o : Oper} {a : Act} {Q : Exit → Act → World → Prop}
    (hg : o.guard = none) (s x : Operand) (t : TypeId) (hop : o.op = Op.call { callee := Callee.builtin Builtin.append, args := #[s, x], argTypes := #[t, t] })
    (base : Nat) (e : TypeId) (i : TypeInfo) (z : Value) (size bytes : Nat) (h1 : P.underlying t = some (.slice e)) (h2 : P.info? e = some i) (h3 : i.zero = some z) (h4 : i.size = size) (h5 : i.bytes = bytes) (h6 : z.cells.size = size) (h7 : 0 < size)
    (v : Value) (k : Nat) (xs : List Value) (hs : a.eval s = v) (hown : w.ownsRow base e size v k xs) (ad : Addr) (m c : Nat) (news : List Value) (hx : a.eval x = .slice (some ad) m c) (hn : news.length = m * size)
    (hc : ∀ j u, news[j]? = some u → w.cell? (ad.add j) = some u) (h1c : ∀ u ∈ news, u.oneCell' = true) (b1 : k + m ≤ maxLen) (b2 : (k + m) * bytes ≤ 140737488355328) (b3 : base ≤ w.heap.size)
    (hK : ∀ v' w', w'.ownsRow base e size v' (k + m) (xs ++ news) → w.grownBy w' v.ownBlock → (v'.ownBlock = v.ownBlock ∨ v'.ownBlock = some w.heap.size) → wpListIn F n P ops Q rest (a.put o.dst v') w') :
    wpListIn F n P ops Q (o :: rest) a w := by
  refine wpListIn_plain hg fun K hK' => ?_
  obtain ⟨v', w', hrun, r1, r2, _, r3⟩ := run_append_own_at (P := P) w base t o.type e i z size bytes h1 h2 h3 h4 h5 h6 h7 v k xs hown ad m c news hn hc h1c b1 b2 b3
  unfold Oper.wpIn
  refine ⟨?_, ?_⟩
  · simp [Oper.about, hop, resolve, Target.leads, Sem.run_pure]
  · rw [Oper.semAt_plain F _ _ (by rw [hop]; intro c hc'; cases hc')]
    simp [execOp, hop, resolve, invoke, builtin, hs, hx, hrun, Result.andThen]
    exact hK' _ _ (hK v' w' r1 r2 r3)
theorem own_same {W W' : World} {base : Nat} {e : TypeId} {size : Nat} {v : Value} {n : Nat} {xs : List Value} (h : W.ownsRow base e size v n xs) (q : ∀ g, v.ownBlock = some g → W'.heap[g]? = W.heap[g]?) : W'.ownsRow base e size v n xs := by
  refine ⟨h.1, ?_⟩
  rcases h.2 with a | ⟨g, cap, cur, rfl, hb, hg, r⟩
  · exact Or.inl a
  · exact Or.inr ⟨g, cap, cur, rfl, hb, (q g rfl).trans hg, r⟩
/-- A list that is gathered, until there are n. -/
def stM (n : Int) (l : List Int) (d : Int) : List Int × Bool := (l ++ [d], decide (((l.length + 1 : Nat) : Int) ≠ n))
theorem run_most (n : Int) : ∀ (xs l : List Int), (l.length : Int) < n → (run (stM n) l xs).1 = l ++ xs.take (n - l.length).toNat
  | [], l, h => by simp [run_nil]
  | d :: xs, l, h => by
    by_cases k : ((l.length + 1 : Nat) : Int) = n
    · rw [run_no (show stM n l d = (l ++ [d], false) by unfold stM; rw [decide_eq_false (by simpa using k)])]
      rw [show (n - (l.length : Int)).toNat = 1 by omega]
      simp
    · rw [run_yes (show stM n l d = (l ++ [d], true) by unfold stM; rw [decide_eq_true k])]
      rw [run_most n xs (l ++ [d]) (by simp; omega), show (n - (l.length : Int)).toNat = (n - ((l ++ [d]).length : Int)).toNat + 1 by simp; omega]
      simp
/-- The list lies in a box, its row is its own. -/
def MoI (n : Int) (nB lB n1 : Nat) (bd : List Int → Prop) (l : List Int) (S : Nat → Prop) (W : World) : Prop :=
  bd l ∧ ∃ v, (∀ b, S b ↔ (b = nB ∨ b = lB ∨ v.ownBlock = some b)) ∧ Boxed W nB 3 (.int .i64 n) ∧ Boxed W lB 22 v ∧ W.ownsRow n1 3 1 v l.length (nums l)
theorem MoI.frm {n : Int} {nB lB n1 n0 : Nat} {bd : List Int → Prop} (h1 : n0 ≤ nB) (h2 : n0 ≤ lB) (h3 : n0 ≤ n1) : Frm n0 (MoI n nB lB n1 bd) := by
  refine ⟨fun l S W h b hb => ?_, fun l S W W' h q same => ?_⟩
  · obtain ⟨_, v, e, c1, c2, c3⟩ := h
    rcases (e b).1 hb with rfl | rfl | z
    · exact ⟨h1, c1.lt⟩
    · exact ⟨h2, c2.lt⟩
    · have := c3.lt b z; exact ⟨by omega, this.2⟩
  · obtain ⟨b0, v, e, c1, c2, c3⟩ := h
    exact ⟨b0, v, e, bxd_same c1 (same _ ((e _).2 (Or.inl rfl))), bxd_same c2 (same _ ((e _).2 (Or.inr (Or.inl rfl)))), own_same c3 (fun g hg => same g ((e _).2 (Or.inr (Or.inr hg))))⟩
/-- What a step of gathering leaves. -/
theorem mo_step (n : Int) (z : Nat) (l : List Int) (d : Int) (S : Nat → Prop) (X w1 : World) (v : Value) (g' cap' : Nat) (he : ∀ b, S b ↔ (b = z ∨ b = z + 1 ∨ v.ownBlock = some b)) (c1 : Boxed X z 3 (.int .i64 n)) (c2 : Boxed X (z + 1) 22 v) (c3 : X.ownsRow (z + 2) 3 1 v l.length (nums l))
    (hown : w1.ownsRow (z + 2) 3 1 (.slice (some ⟨g', 0, none⟩) (l.length + 1) cap') (l.length + 1) (nums l ++ [.int .i64 d])) (hgrow : (X.alloc (.cells #[.int .i64 d] 3)).grownBy w1 v.ownBlock) (hat : (Value.slice (some ⟨g', 0, none⟩) (l.length + 1) cap').ownBlock = v.ownBlock ∨ (Value.slice (some ⟨g', 0, none⟩) (l.length + 1) cap').ownBlock = some (X.alloc (.cells #[.int .i64 d] 3)).heap.size) :
    Boxed w1 (z + 1) 22 v ∧ Boxed w1 z 3 (.int .i64 n) ∧ ∀ bd : List Int → Prop, bd (l ++ [d]) → ∃ S', Gr S X S' ∧ Kps S X (w1.setCell ⟨z + 1, 0, none⟩ (.slice (some ⟨g', 0, none⟩) (l.length + 1) cap')) ∧ MoI n z (z + 1) (z + 2) bd (l ++ [d]) S' (w1.setCell ⟨z + 1, 0, none⟩ (.slice (some ⟨g', 0, none⟩) (l.length + 1) cap')) := by
  have n1 : some z ≠ v.ownBlock := fun e => by have := (c3.lt z e.symm).1; omega
  have n2 : some (z + 1) ≠ v.ownBlock := fun e => by have := (c3.lt (z + 1) e.symm).1; omega
  have k1 : Boxed w1 z 3 (.int .i64 n) := (c1.alloc _).kept hgrow n1
  have k2 : Boxed w1 (z + 1) 22 v := (c2.alloc _).kept hgrow n2
  have g1 : z + 2 ≤ g' := (hown.lt g' rfl).1
  refine ⟨k2, k1, fun bd hbd => ⟨fun b => b = z ∨ b = z + 1 ∨ b = g', ?_, ?_, hbd, _, fun b => ?_, k1.other (by omega) _, k2.set _, ?_⟩⟩
  · rintro b (rfl | rfl | rfl)
    · exact Or.inl ((he _).2 (Or.inl rfl))
    · exact Or.inl ((he _).2 (Or.inr (Or.inl rfl)))
    · rcases hat with q | q
      · exact Or.inl ((he _).2 (Or.inr (Or.inr q.symm)))
      · refine Or.inr ?_
        have : b = X.heap.size + 1 := by simpa [Value.ownBlock] using q
        omega
  · have kA : Kps S X (X.alloc (.cells #[.int .i64 d] 3)) := Kps.of_below ((Below.refl _ _).alloc (Nat.le_refl _) _)
    have kB : Kps (fun b => v.ownBlock = some b) (X.alloc (.cells #[.int .i64 d] 3)) w1 := ⟨hgrow.os, hgrow.tape, hgrow.output, hgrow.size, fun b hb hS => hgrow.block b hb (fun e => hS e.symm)⟩
    have kC : Kps (fun b => b = z + 1) w1 (w1.setCell ⟨z + 1, 0, none⟩ (.slice (some ⟨g', 0, none⟩) (l.length + 1) cap')) := Kps.set _ rfl
    exact (kA.trans kB (fun b e => Or.inl ((he b).2 (Or.inr (Or.inr e))))).trans kC (fun b e => Or.inl ((he b).2 (Or.inr (Or.inl e))))
  · show (b = z ∨ b = z + 1 ∨ b = g') ↔ (b = z ∨ b = z + 1 ∨ some g' = some b)
    simp [eq_comm]
  · rw [List.length_append, nums_snoc]
    exact hown.kept (grownBy_setCell' w1 (z + 1) _) (Or.inr (fun e => by have : g' = z + 1 := by simpa [Value.ownBlock] using e
                                                                         omega))
theorem nums_len (l : List Int) : (nums l).length = l.length := by simp [nums]
set_option maxRecDepth 100000 in
set_option maxHeartbeats 4000000 in
theorem atMost_any (n : Int) (lb : Array Value) (xs : List Int) (n0 : Nat) (w : World) (T : Nat → Prop) (hI : Itr Tryz.prog 30 lb xs n0 w T) (hn0 : n0 ≤ w.heap.size) (hT : ∀ b, T b → b < w.heap.size ∧ n0 ≤ b) (h0 : 0 ≤ n) (h1 : n ≤ 201) :
    Calls Tryz.prog 23 #[.int .i64 n, .func (.func 30) #[] lb] w fun e w' => ∃ v, e = .returned v ∧ Ints w' v (xs.take n.toNat) ∧ Below n0 w w' := by
  obtain ⟨i0, hi, hz0, hz1, hz2⟩ := info_parts info_per_int
  by_cases hn : n = 0
  · subst hn
    clear hI
    go_enter Tryz.func23, Tryz.ntmps23
    go_wp2
    go_ret
    exact ⟨_, rfl, ⟨none, 0, rfl, Or.inl rfl⟩, (Below.refl _ _).alloc hn0 _⟩
  have hne : (n == 0) = false := by simpa using hn
  refine (callsIn_wide (n := 3)).1 ?_
  refine callsIn_of_wp_marks Tryz.func23 rfl trivial ?_ rfl
  simp only [Tryz.ntmps23, List.size_toArray, List.length_cons, List.length_nil, Nat.reduceAdd, Nat.reduceSub, Array.replicate_succ, Array.replicate_zero, List.push_toArray, List.append_toArray, List.nil_append, List.cons_append]
  obtain ⟨W, hW⟩ : ∃ W, W = (w.alloc (.cells #[.int .i64 n] 3)).alloc (.cells #[.slice none 0 0] 22) := ⟨_, rfl⟩
  have hB : Below w.heap.size w W := by rw [hW]; exact ((Below.refl _ _).alloc (Nat.le_refl _) _).alloc (by simp) _
  have hz : W.heap.size = w.heap.size + 2 := by rw [hW]; simp
  have b1 : Boxed W w.heap.size 3 (.int .i64 n) := by rw [hW]; exact (Boxed.new _ _ _).alloc _
  have b2 : Boxed W (w.heap.size + 1) 22 (.slice none 0 0) := by
    have q := Boxed.new (w.alloc (.cells #[.int .i64 n] 3)) 22 (.slice none 0 0)
    rw [World.size_alloc] at q
    rw [hW]; exact q
  gi_wp2_with fail
  rw [← hW]
  clear hW
  have FI : ∀ bd : List Int → Prop, Frm n0 (MoI n w.heap.size (w.heap.size + 1) (w.heap.size + 2) bd) := fun bd => MoI.frm (by omega) (by omega) (by omega)
  refine rf_law (gf := 30) (lb := lb) rfl (enters_of Tryz.func30 (by kernel_rfl) rfl) hI (hB.mono hn0) hn0 (stM n)
    (MoI n w.heap.size (w.heap.size + 1) (w.heap.size + 2) (fun l => (l.length : Int) < n)) (fun c l S X => c = .exit 0 ∧ MoI n w.heap.size (w.heap.size + 1) (w.heap.size + 2) (fun _ => True) l S X)
    (FI _) (fun c => ⟨fun y S X h => (FI _).lt y S X h.2, fun y S X X' h q p => ⟨h.1, (FI _).on y S X X' h.2 q p⟩⟩) [] (fun b => b = w.heap.size ∨ b = w.heap.size + 1) ⟨by simp; omega, .slice none 0 0, fun b => by simp [Value.ownBlock], b1, b2, World.ownsRow_nil _ _ _ _⟩ ?hT rfl ?a1 ?assign ?body ?done ?stop
  case hT =>
    intro b hb
    obtain ⟨t1, t2⟩ := hT b hb
    exact ⟨t1, t2, by omega, hB.block b t1⟩
  case assign =>
    intro l' d X K hK
    gi_wp2
    exact hK
  case body =>
    clear b1 b2 hI hT hB
    rintro l' l S d X ⟨hlen, v, he, c1, c2, c3⟩ hnX
    have HV := Lib.hid he
    have HC1 := Lib.hid c1
    have HC2 := Lib.hid c2
    have HO := Lib.hid c3
    have ll : l.length < 201 := by omega
    have zX : w.heap.size + 2 ≤ X.heap.size := by have := c2.lt; omega
    have k1 := c1.cell
    have k2 := c2.cell
    clear he c1 c2 c3
    rcases hcq : (((l.length + 1 : Nat) : Int) == n) with _ | _
    · have EF : Hid (stM n l d = (l ++ [d], true)) := Lib.hid (by unfold stM; rw [decide_eq_true (by simpa using hcq)])
      have LL : Hid (((l ++ [d]).length : Int) < n) := Lib.hid (by have : ((l.length + 1 : Nat) : Int) ≠ n := by simpa using hcq
                                                                   simp; omega)
      gi_wp2_with (gi_at_builtin; refine append_at _ rfl _ _ 22 rfl (w.heap.size + 2) 3 i0 (.int .i64 0) 1 8 Tryz.underlying22 hi hz0 hz1 hz2 rfl (by decide) _ _ _ rfl (HO.out.alloc _) ⟨X.heap.size, 0, none⟩ 1 1 [.int .i64 d] rfl rfl (cell_one_new _ _ _) (by simp [Value.oneCell']) (by unfold maxLen; omega) (by omega) (by simp; omega) ?_; intro v' w1 hown' hgrow hat; obtain ⟨g', cap', rfl⟩ := ownsRow_succ hown'; have M1 := Lib.hid (mo_step n w.heap.size l d S X w1 v g' cap' HV.out HC1.out HC2.out HO.out hown' hgrow hat); have hc1 := M1.out.1.cell; have hf1 := M1.out.1.frozen; have hn1 := M1.out.2.1.cell; clear hown' hgrow hat k1 k2)
      obtain ⟨S', u1, u2, u3⟩ := M1.out.2.2 (fun l => (l.length : Int) < n) LL.out
      exact ⟨_, S', EF.out, u1, u2, u3⟩
    · have EF : Hid (stM n l d = (l ++ [d], false)) := Lib.hid (by unfold stM; rw [decide_eq_false (by simpa using hcq)])
      gi_wp2_with (gi_at_builtin; refine append_at _ rfl _ _ 22 rfl (w.heap.size + 2) 3 i0 (.int .i64 0) 1 8 Tryz.underlying22 hi hz0 hz1 hz2 rfl (by decide) _ _ _ rfl (HO.out.alloc _) ⟨X.heap.size, 0, none⟩ 1 1 [.int .i64 d] rfl rfl (cell_one_new _ _ _) (by simp [Value.oneCell']) (by unfold maxLen; omega) (by omega) (by simp; omega) ?_; intro v' w1 hown' hgrow hat; obtain ⟨g', cap', rfl⟩ := ownsRow_succ hown'; have M1 := Lib.hid (mo_step n w.heap.size l d S X w1 v g' cap' HV.out HC1.out HC2.out HO.out hown' hgrow hat); have hc1 := M1.out.1.cell; have hf1 := M1.out.1.frozen; have hn1 := M1.out.2.1.cell; clear hown' hgrow hat k1 k2)
      obtain ⟨S', u1, u2, u3⟩ := M1.out.2.2 (fun _ => True) trivial
      exact ⟨_, S', EF.out, u1, u2, rfl, u3⟩
  case done =>
    rintro D y S X hD hSD hrun ⟨_, v, he, c1, c2, c3⟩ hg3 hk3 hDd
    have ZZ := Lib.hid (show Ints (X.putObj D (.deferred none)) v (xs.take n.toNat) ∧ Below n0 w (X.putObj D (.deferred none)) from by
      have kD : Kps (fun b => b = D) X (X.putObj D (.deferred none)) := Kps.put _ rfl
      have kW : Kps (fun b => (b = w.heap.size ∨ b = w.heap.size + 1) ∨ T b) w X := (Kps.of_below hB).trans hk3 (Gr.refl _ _)
      have hBX : Below n0 w X := kW.below (fun b hb => hb.elim (fun z => by omega) (fun z => (hT b z).2)) hn0
      have hBD : Below n0 w (X.putObj D (.deferred none)) := hBX.trans (kD.below (fun b e => by omega) (Nat.le_trans hn0 hBX.size))
      have IN : Ints (X.putObj D (.deferred none)) v (xs.take n.toNat) := by
        have q := ow_ints (ownsRow_putObj c3 (.deferred none) hDd rfl)
        have r := run_most n xs [] (by simp; omega)
        rw [hrun] at r
        have r' : y = xs.take n.toNat := by simpa using r
        rwa [r'] at q
      exact ⟨IN, hBD⟩)
    have k2 := c2.cell
    clear hrun he c1 hg3 hk3 b1 b2 hI
    obtain ⟨av, cv, rfl⟩ : ∃ a c, v = .slice a y.length c := by
      rcases c3.2 with ⟨q, q0⟩ | ⟨g, cap, _, q, _⟩
      · exact ⟨none, 0, by rw [q, q0]⟩
      · exact ⟨_, _, q⟩
    clear c3 c2
    gi_wp2
    refine ⟨by simp, .inl ⟨_, _, rfl, run_takeDeferred hDd, ?_⟩⟩
    exact ⟨.slice av y.length cv, by simp [results, Tryz.results23, go_sem], _, rfl, ZZ.out⟩
  case stop =>
    rintro D c y S X hD hSD hrun ⟨rfl, _, v, he, c1, c2, c3⟩ hg3 hk3 hDd
    have ZZ := Lib.hid (show Ints (X.putObj D (.deferred none)) v (xs.take n.toNat) ∧ Below n0 w (X.putObj D (.deferred none)) from by
      have kD : Kps (fun b => b = D) X (X.putObj D (.deferred none)) := Kps.put _ rfl
      have kW : Kps (fun b => (b = w.heap.size ∨ b = w.heap.size + 1) ∨ T b) w X := (Kps.of_below hB).trans hk3 (Gr.refl _ _)
      have hBX : Below n0 w X := kW.below (fun b hb => hb.elim (fun z => by omega) (fun z => (hT b z).2)) hn0
      have hBD : Below n0 w (X.putObj D (.deferred none)) := hBX.trans (kD.below (fun b e => by omega) (Nat.le_trans hn0 hBX.size))
      have IN : Ints (X.putObj D (.deferred none)) v (xs.take n.toNat) := by
        have q := ow_ints (ownsRow_putObj c3 (.deferred none) hDd rfl)
        have r := run_most n xs [] (by simp; omega)
        rw [hrun] at r
        have r' : y = xs.take n.toNat := by simpa using r
        rwa [r'] at q
      exact ⟨IN, hBD⟩)
    have k2 := c2.cell
    clear hrun he c1 hg3 hk3 b1 b2 hI
    obtain ⟨av, cv, rfl⟩ : ∃ a c, v = .slice a y.length c := by
      rcases c3.2 with ⟨q, q0⟩ | ⟨g, cap, _, q, _⟩
      · exact ⟨none, 0, by rw [q, q0]⟩
      · exact ⟨_, _, q⟩
    clear c3 c2
    gi_wp2
    refine ⟨by simp, .inl ⟨_, _, rfl, run_takeDeferred hDd, ?_⟩⟩
    exact ⟨.slice av y.length cv, by simp [results, Tryz.results23, go_sem], _, rfl, ZZ.out⟩
end Go.Proofs.YtnnpnalfkcngmacGreatDoor
namespace Go.Proofs.YtnnpnalfkcngmacGreatDoor
open Go.RowKit Cal Txt

/-- A list, or an error. -/
def LstA (w : World) (k : Int) (l : List Int) (e : Ending) (w' : World) : Prop :=
  Below w.heap.size w w' ∧ ((k ≠ 0 ∧ e = .returned (.tuple #[.slice none 0 0, fault k])) ∨ (k = 0 ∧ ∃ v, e = .returned (.tuple #[v, .nilIface]) ∧ Ints w' v l))
/-- What is wrong with what First is asked. -/
def ff (r : Rl) (s n : Int) : Int := if sf r s = 0 then (if 0 ≤ n ∧ n ≤ 200 then 0 else 1) else sf r s
set_option maxRecDepth 100000 in
set_option maxHeartbeats 4000000 in
theorem first_any (r : Rl) (v : Value) (s n : Int) (w : World) (hv : RuleIn w v r) (hT : Tab w) :
    Calls Tryz.prog 7 #[v, .int .i64 s, .int .i64 n] w (LstA w (ff r s n) ((btL r s s 109573).take n.toNat)) := by
  obtain ⟨am, ad, aw, ap, cm, cd, cw, cp, rfl⟩ := hv.form
  obtain ⟨W, hW⟩ : ∃ W, W = w.alloc (.cells #[.int .i64 r.freq, .int .i64 r.every, .int .i64 r.count, .int .i64 r.till, .slice am r.months.length cm, .slice ad r.days.length cd, .slice aw r.weeks.length cw, .slice ap r.pick.length cp] 25) := ⟨_, rfl⟩
  have hB : Below w.heap.size w W := by rw [hW]; exact (Below.refl _ _).alloc (Nat.le_refl _) _
  have hR : RlB W w.heap.size r am ad aw ap cm cd cw cp := by rw [hW]; exact RlB.new _ _ _ _ _ _ _ _ _ _
  have zW : W.heap.size = w.heap.size + 1 := by rw [hW]; simp
  have HS : Hid (∀ X, Below W.heap.size W X → X.cell? ⟨w.heap.size, 0, none⟩ = some (.int .i64 r.freq) ∧ X.cell? ⟨w.heap.size, 1, none⟩ = some (.int .i64 r.every) ∧ X.cell? ⟨w.heap.size, 2, none⟩ = some (.int .i64 r.count) ∧ X.cell? ⟨w.heap.size, 3, none⟩ = some (.int .i64 r.till) ∧ X.cell? ⟨w.heap.size, 4, none⟩ = some (.slice am r.months.length cm) ∧ X.cell? ⟨w.heap.size, 5, none⟩ = some (.slice ad r.days.length cd) ∧ X.cell? ⟨w.heap.size, 6, none⟩ = some (.slice aw r.weeks.length cw) ∧ X.cell? ⟨w.heap.size, 7, none⟩ = some (.slice ap r.pick.length cp)) := Lib.hid (fun X q => RlB.box (show RlB X w.heap.size r am ad aw ap cm cd cw cp from (q.block _ (by omega)).trans hR))
  have KB : Hid (∀ X, Below W.heap.size W X → Calls Tryz.prog 21 #[(.agg #[.int .i64 r.freq, .int .i64 r.every, .int .i64 r.count, .int .i64 r.till, .slice am r.months.length cm, .slice ad r.days.length cd, .slice aw r.weeks.length cw, .slice ap r.pick.length cp]), .int .i64 s, .int .i64 s, .int .i64 109573] X (BetA X r s s 109573)) := Lib.hid (fun X q => by
    have hb : Below w.heap.size w X := hB.trans (q.mono hB.size)
    exact between_any r _ s s 109573 X (hv.on hb) (hT.below hb) (Or.inl (Int.le_refl _)))
  have HB := Lib.hid hB
  clear hv hT hB hR
  go_enter Tryz.func7, Tryz.ntmps7
  go_wp2_with fail
  rw [← hW]
  clear hW
  go_region_held3 (fun X => X.cell? ⟨w.heap.size, 0, none⟩ = some (.int .i64 r.freq) ∧ X.cell? ⟨w.heap.size, 1, none⟩ = some (.int .i64 r.every) ∧ X.cell? ⟨w.heap.size, 2, none⟩ = some (.int .i64 r.count) ∧ X.cell? ⟨w.heap.size, 3, none⟩ = some (.int .i64 r.till) ∧ X.cell? ⟨w.heap.size, 4, none⟩ = some (.slice am r.months.length cm) ∧ X.cell? ⟨w.heap.size, 5, none⟩ = some (.slice ad r.days.length cd) ∧ X.cell? ⟨w.heap.size, 6, none⟩ = some (.slice aw r.weeks.length cw) ∧ X.cell? ⟨w.heap.size, 7, none⟩ = some (.slice ap r.pick.length cp))
    (first | exact HS.out _ (Below.refl _ _).drew | exact HS.out _ (Below.trans (Below.drew (Below.refl _ W)) hb2.1)) (first
    | (go_at_call 22; refine (last_any _).mono ?_; rintro e w2 ⟨rfl, rfl⟩)
    | (go_at_call 21; refine (KB.out _ (Below.refl _ W).drew).mono ?_; rintro e w3 hb2; obtain ⟨vf, ve, hve⟩ : ∃ vf ve, e = .returned (.tuple #[vf, ve]) := (by rcases hb2.2 with ⟨_, q⟩ | ⟨_, _, _, q, _⟩ <;> exact ⟨_, _, q⟩); subst hve))
  obtain ⟨hb3, hc⟩ := hb2
  have h4 : Below W.heap.size W w3 := Below.trans (Below.drew (Below.refl _ W)) hb3
  have B3 := Lib.hid (HB.out.trans (h4.mono HB.out.size))
  clear h4
  clear HS KB
  rcases hc with ⟨k1, k2⟩ | ⟨k1, k2, lb, k3, hI⟩
  · obtain ⟨rfl, rfl⟩ : vf = .nilFunc ∧ ve = fault (sf r s) := by simpa using k2
    have FE : Hid (ff r s n = sf r s) := Lib.hid (if_neg k1)
    have K1 := Lib.hid k1
    rw [fault_ne k1]
    clear k1 k2 hb3
    go_wp2
    exact bodyPost_ret (v := .tuple #[.slice none 0 0, .iface 61 (.int .i64 (sf r s))]) (by simp [results, Tryz.results7, go_sem]) rfl ⟨B3.out, Or.inl ⟨by rw [FE.out]; exact K1.out, by rw [FE.out, fault_ne K1.out]⟩⟩
  · obtain ⟨rfl, rfl⟩ : vf = .func (.func 30) #[] lb ∧ ve = .nilIface := by simpa using k3
    have HI := Lib.hid hI
    have H3 := Lib.hid hb3
    have z3 : W.heap.size + 4 ≤ w3.heap.size := k2
    clear hI k3 k2 hb3
    by_cases n1 : 0 ≤ n
    · by_cases n2 : n ≤ 200
      · have FE : Hid (ff r s n = 0) := Lib.hid ((if_pos k1).trans (if_pos ⟨n1, n2⟩))
        have t1 : decide (n < 0) = false := decide_eq_false (by omega)
        have t2 : decide (n > 200) = false := decide_eq_false (by omega)
        have KA := Lib.hid (atMost_any n lb _ _ w3 _ HI.out (by show W.heap.size ≤ w3.heap.size; omega) (fun b hb => ⟨by have q : b < W.heap.size + 4 := hb.2; omega, hb.1⟩) n1 (by omega))
        clear k1
        go_wp2_with fail
        refine KA.out.mono ?_
        rintro e w4 ⟨v4, rfl, i4, b4⟩
        have I4 := Lib.hid i4
        have B4 := Lib.hid (B3.out.trans (b4.mono (by show w.heap.size ≤ W.heap.size; omega)))
        obtain ⟨a4, c4, rfl, _⟩ := i4
        clear b4 KA
        go_wp2
        exact bodyPost_ret (v := .tuple #[.slice a4 ((btL r s s 109573).take n.toNat).length c4, .nilIface]) (by simp [results, Tryz.results7, go_sem]) rfl ⟨B4.out, Or.inr ⟨FE.out, _, rfl, I4.out⟩⟩
      · have FE : Hid (ff r s n = 1) := Lib.hid ((if_pos k1).trans (if_neg (by omega)))
        have t1 : decide (n < 0) = false := decide_eq_false (by omega)
        have t2 : decide (n > 200) = true := decide_eq_true (by omega)
        clear k1
        go_wp2
        exact bodyPost_ret (v := .tuple #[.slice none 0 0, errRange]) (by simp [results, Tryz.results7, go_sem]) rfl ⟨B3.out, Or.inl ⟨by rw [FE.out]; decide, by rw [FE.out]; rfl⟩⟩
    · have FE : Hid (ff r s n = 1) := Lib.hid ((if_pos k1).trans (if_neg (by omega)))
      have t1 : decide (n < 0) = true := decide_eq_true (by omega)
      clear k1
      go_wp2
      exact bodyPost_ret (v := .tuple #[.slice none 0 0, errRange]) (by simp [results, Tryz.results7, go_sem]) rfl ⟨B3.out, Or.inl ⟨by rw [FE.out]; decide, by rw [FE.out]; rfl⟩⟩
end Go.Proofs.YtnnpnalfkcngmacGreatDoor
namespace Go.Proofs.YtnnpnalfkcngmacGreatDoor
open Go.RowKit Cal Txt

/-- What is wrong with what Between is asked. -/
def bf (r : Rl) (s fr t : Int) : Int := if sf r s = 0 then (if 200 < (btL r s fr t).length then 4 else 0) else sf r s
set_option maxRecDepth 100000 in
set_option maxHeartbeats 4000000 in
theorem betw_any (r : Rl) (v : Value) (s fr t : Int) (w : World) (hv : RuleIn w v r) (hT : Tab w) (hfr : fr ≤ s ∨ fr ≤ 9223372036854775807) :
    Calls Tryz.prog 11 #[v, .int .i64 s, .int .i64 fr, .int .i64 t] w (LstA w (bf r s fr t) (btL r s fr t)) := by
  obtain ⟨am, ad, aw, ap, cm, cd, cw, cp, rfl⟩ := hv.form
  obtain ⟨W, hW⟩ : ∃ W, W = w.alloc (.cells #[.int .i64 r.freq, .int .i64 r.every, .int .i64 r.count, .int .i64 r.till, .slice am r.months.length cm, .slice ad r.days.length cd, .slice aw r.weeks.length cw, .slice ap r.pick.length cp] 25) := ⟨_, rfl⟩
  have hB : Below w.heap.size w W := by rw [hW]; exact (Below.refl _ _).alloc (Nat.le_refl _) _
  have zW : W.heap.size = w.heap.size + 1 := by rw [hW]; simp
  have KB := Lib.hid (between_any r _ s fr t W (hv.on hB) (hT.below hB) hfr)
  have HB := Lib.hid hB
  clear hv hT hB hfr
  go_enter Tryz.func11, Tryz.ntmps11
  go_wp2_with fail
  rw [← hW]
  clear hW
  refine KB.out.mono ?_
  rintro e w3 ⟨hb3, hc⟩
  have B3 := Lib.hid (HB.out.trans (hb3.mono HB.out.size))
  clear KB
  rcases hc with ⟨k1, rfl⟩ | ⟨k1, k2, lb, rfl, hI⟩
  · have FE : Hid (bf r s fr t = sf r s) := Lib.hid (if_neg k1)
    have K1 := Lib.hid k1
    rw [fault_ne k1]
    clear k1 hb3
    go_wp2
    exact bodyPost_ret (v := .tuple #[.slice none 0 0, .iface 61 (.int .i64 (sf r s))]) (by simp [results, Tryz.results11, go_sem]) rfl ⟨B3.out, Or.inl ⟨by rw [FE.out]; exact K1.out, by rw [FE.out, fault_ne K1.out]⟩⟩
  · have z3 : W.heap.size + 4 ≤ w3.heap.size := k2
    have KA := Lib.hid (atMost_any 201 lb _ _ w3 _ hI (by omega) (fun b hb => ⟨by have q : b < W.heap.size + 4 := hb.2; omega, hb.1⟩) (by omega) (by omega))
    have K1 := Lib.hid k1
    clear hI k1 k2 hb3
    go_wp2_with fail
    refine KA.out.mono ?_
    rintro e w4 ⟨v4, rfl, i4, b4⟩
    have B4 := Lib.hid (B3.out.trans (b4.mono (by omega)))
    have I4 := Lib.hid i4
    obtain ⟨a4, c4, rfl, _⟩ := i4
    have hl : ((btL r s fr t).take (201 : Int).toNat).length = min 201 (btL r s fr t).length := List.length_take
    obtain ⟨m, hm⟩ : ∃ m, m = ((btL r s fr t).take (201 : Int).toNat).length := ⟨_, rfl⟩
    rw [← hm]
    rw [← hm] at hl
    have HM := Lib.hid hm
    clear b4 KA hm
    by_cases hg : 200 < (btL r s fr t).length
    · have FE : Hid (bf r s fr t = 4) := Lib.hid ((if_pos K1.out).trans (if_pos hg))
      have t1 : decide ((m : Int) > 200) = true := decide_eq_true (by omega)
      clear hg hl
      go_wp2
      exact bodyPost_ret (v := .tuple #[.slice none 0 0, .iface 61 (.int .i64 4)]) (by simp [results, Tryz.results11, go_sem]) rfl ⟨B4.out, Or.inl ⟨by rw [FE.out]; decide, by rw [FE.out]; rfl⟩⟩
    · have FE : Hid (bf r s fr t = 0) := Lib.hid ((if_pos K1.out).trans (if_neg hg))
      have t1 : decide ((m : Int) > 200) = false := decide_eq_false (by omega)
      have ET : Hid ((btL r s fr t).take (201 : Int).toNat = btL r s fr t) := Lib.hid (List.take_of_length_le (by show (btL r s fr t).length ≤ 201; omega))
      clear hg hl
      go_wp2
      exact bodyPost_ret (v := .tuple #[.slice a4 m c4, .nilIface]) (by simp [results, Tryz.results11, go_sem]) rfl ⟨B4.out, Or.inr ⟨FE.out, _, rfl, by have q := I4.out; rw [← HM.out, ET.out] at q; exact q⟩⟩
set_option maxRecDepth 100000 in
set_option maxHeartbeats 4000000 in
theorem has_any (r : Rl) (v : Value) (s n : Int) (w : World) (hv : RuleIn w v r) (hT : Tab w) (hfr : n ≤ s ∨ n ≤ 9223372036854775807) :
    Calls Tryz.prog 14 #[v, .int .i64 s, .int .i64 n] w fun e w' => Below w.heap.size w w' ∧ ((sf r s ≠ 0 ∧ e = .returned (.tuple #[.bool false, fault (sf r s)])) ∨ (sf r s = 0 ∧ e = .returned (.tuple #[.bool (decide (btL r s n n ≠ [])), .nilIface]))) := by
  obtain ⟨am, ad, aw, ap, cm, cd, cw, cp, rfl⟩ := hv.form
  obtain ⟨W, hW⟩ : ∃ W, W = w.alloc (.cells #[.int .i64 r.freq, .int .i64 r.every, .int .i64 r.count, .int .i64 r.till, .slice am r.months.length cm, .slice ad r.days.length cd, .slice aw r.weeks.length cw, .slice ap r.pick.length cp] 25) := ⟨_, rfl⟩
  have hB : Below w.heap.size w W := by rw [hW]; exact (Below.refl _ _).alloc (Nat.le_refl _) _
  have zW : W.heap.size = w.heap.size + 1 := by rw [hW]; simp
  have KB := Lib.hid (between_any r _ s n n W (hv.on hB) (hT.below hB) hfr)
  have HB := Lib.hid hB
  clear hv hT hB hfr
  go_enter Tryz.func14, Tryz.ntmps14
  go_wp2_with fail
  rw [← hW]
  clear hW
  refine KB.out.mono ?_
  rintro e w3 ⟨hb3, hc⟩
  have B3 := Lib.hid (HB.out.trans (hb3.mono HB.out.size))
  clear KB
  rcases hc with ⟨k1, rfl⟩ | ⟨k1, k2, lb, rfl, hI⟩
  · have K1 := Lib.hid k1
    rw [fault_ne k1]
    clear k1 hb3
    go_wp2
    exact bodyPost_ret (v := .tuple #[.bool false, .iface 61 (.int .i64 (sf r s))]) (by simp [results, Tryz.results14, go_sem]) rfl ⟨B3.out, Or.inl ⟨K1.out, by rw [fault_ne K1.out]⟩⟩
  · have z3 : W.heap.size + 4 ≤ w3.heap.size := k2
    have KA := Lib.hid (atMost_any 1 lb _ _ w3 _ hI (by omega) (fun b hb => ⟨by have q : b < W.heap.size + 4 := hb.2; omega, hb.1⟩) (by omega) (by omega))
    have K1 := Lib.hid k1
    clear hI k1 k2 hb3
    go_wp2_with fail
    refine KA.out.mono ?_
    rintro e w4 ⟨v4, rfl, i4, b4⟩
    have B4 := Lib.hid (B3.out.trans (b4.mono (by omega)))
    obtain ⟨a4, c4, rfl, _⟩ := i4
    have hl : ((btL r s n n).take (1 : Int).toNat).length = min 1 (btL r s n n).length := List.length_take
    obtain ⟨m, hm⟩ : ∃ m, m = ((btL r s n n).take (1 : Int).toNat).length := ⟨_, rfl⟩
    rw [← hm]
    rw [← hm] at hl
    clear b4 KA hm
    by_cases hg : btL r s n n = []
    · have t1 : ((m : Int) == 1) = false := by rw [hg] at hl; simp at hl; simp; omega
      have DE : Hid (decide (btL r s n n ≠ []) = false) := Lib.hid (decide_eq_false (fun h => h hg))
      clear hg hl
      go_wp2
      exact bodyPost_ret (v := .tuple #[.bool false, .nilIface]) (by simp [results, Tryz.results14, go_sem]) rfl ⟨B4.out, Or.inr ⟨K1.out, by rw [DE.out]⟩⟩
    · have lp := List.length_pos_iff.2 hg
      have t1 : ((m : Int) == 1) = true := by simp; omega
      have DE : Hid (decide (btL r s n n ≠ []) = true) := Lib.hid (decide_eq_true hg)
      clear hg hl lp
      go_wp2
      exact bodyPost_ret (v := .tuple #[.bool true, .nilIface]) (by simp [results, Tryz.results14, go_sem]) rfl ⟨B4.out, Or.inr ⟨K1.out, by rw [DE.out]⟩⟩
set_option maxRecDepth 100000 in
set_option maxHeartbeats 4000000 in
theorem count_any (r : Rl) (v : Value) (s : Int) (w : World) (hv : RuleIn w v r) (hT : Tab w) :
    Calls Tryz.prog 10 #[v, .int .i64 s] w fun e w' => Below w.heap.size w w' ∧ ((sf r s ≠ 0 ∧ e = .returned (.tuple #[.int .i64 0, fault (sf r s)])) ∨ (sf r s = 0 ∧ e = .returned (.tuple #[.int .i64 ((min 201 (btL r s s 109573).length : Nat) : Int), .nilIface]))) := by
  obtain ⟨am, ad, aw, ap, cm, cd, cw, cp, rfl⟩ := hv.form
  obtain ⟨W, hW⟩ : ∃ W, W = w.alloc (.cells #[.int .i64 r.freq, .int .i64 r.every, .int .i64 r.count, .int .i64 r.till, .slice am r.months.length cm, .slice ad r.days.length cd, .slice aw r.weeks.length cw, .slice ap r.pick.length cp] 25) := ⟨_, rfl⟩
  have hB : Below w.heap.size w W := by rw [hW]; exact (Below.refl _ _).alloc (Nat.le_refl _) _
  have hR : RlB W w.heap.size r am ad aw ap cm cd cw cp := by rw [hW]; exact RlB.new _ _ _ _ _ _ _ _ _ _
  have zW : W.heap.size = w.heap.size + 1 := by rw [hW]; simp
  have HS : Hid (∀ X, Below W.heap.size W X → X.cell? ⟨w.heap.size, 0, none⟩ = some (.int .i64 r.freq) ∧ X.cell? ⟨w.heap.size, 1, none⟩ = some (.int .i64 r.every) ∧ X.cell? ⟨w.heap.size, 2, none⟩ = some (.int .i64 r.count) ∧ X.cell? ⟨w.heap.size, 3, none⟩ = some (.int .i64 r.till) ∧ X.cell? ⟨w.heap.size, 4, none⟩ = some (.slice am r.months.length cm) ∧ X.cell? ⟨w.heap.size, 5, none⟩ = some (.slice ad r.days.length cd) ∧ X.cell? ⟨w.heap.size, 6, none⟩ = some (.slice aw r.weeks.length cw) ∧ X.cell? ⟨w.heap.size, 7, none⟩ = some (.slice ap r.pick.length cp)) := Lib.hid (fun X q => RlB.box (show RlB X w.heap.size r am ad aw ap cm cd cw cp from (q.block _ (by omega)).trans hR))
  have KB : Hid (∀ X, Below W.heap.size W X → Calls Tryz.prog 21 #[(.agg #[.int .i64 r.freq, .int .i64 r.every, .int .i64 r.count, .int .i64 r.till, .slice am r.months.length cm, .slice ad r.days.length cd, .slice aw r.weeks.length cw, .slice ap r.pick.length cp]), .int .i64 s, .int .i64 s, .int .i64 109573] X (BetA X r s s 109573)) := Lib.hid (fun X q => by
    have hb : Below w.heap.size w X := hB.trans (q.mono hB.size)
    exact between_any r _ s s 109573 X (hv.on hb) (hT.below hb) (Or.inl (Int.le_refl _)))
  have HB := Lib.hid hB
  clear hv hT hB hR
  go_enter Tryz.func10, Tryz.ntmps10
  go_wp2_with fail
  rw [← hW]
  clear hW
  go_region_held3 (fun X => X.cell? ⟨w.heap.size, 0, none⟩ = some (.int .i64 r.freq) ∧ X.cell? ⟨w.heap.size, 1, none⟩ = some (.int .i64 r.every) ∧ X.cell? ⟨w.heap.size, 2, none⟩ = some (.int .i64 r.count) ∧ X.cell? ⟨w.heap.size, 3, none⟩ = some (.int .i64 r.till) ∧ X.cell? ⟨w.heap.size, 4, none⟩ = some (.slice am r.months.length cm) ∧ X.cell? ⟨w.heap.size, 5, none⟩ = some (.slice ad r.days.length cd) ∧ X.cell? ⟨w.heap.size, 6, none⟩ = some (.slice aw r.weeks.length cw) ∧ X.cell? ⟨w.heap.size, 7, none⟩ = some (.slice ap r.pick.length cp))
    (first | exact HS.out _ (Below.refl _ _).drew | exact HS.out _ (Below.trans (Below.drew (Below.refl _ W)) hb2.1)) (first
    | (go_at_call 22; refine (last_any _).mono ?_; rintro e w2 ⟨rfl, rfl⟩)
    | (go_at_call 21; refine (KB.out _ (Below.refl _ W).drew).mono ?_; rintro e w3 hb2; obtain ⟨vf, ve, hve⟩ : ∃ vf ve, e = .returned (.tuple #[vf, ve]) := (by rcases hb2.2 with ⟨_, q⟩ | ⟨_, _, _, q, _⟩ <;> exact ⟨_, _, q⟩); subst hve))
  obtain ⟨hb3, hc⟩ := hb2
  have h4 : Below W.heap.size W w3 := Below.trans (Below.drew (Below.refl _ W)) hb3
  have B3 := Lib.hid (HB.out.trans (h4.mono HB.out.size))
  clear h4 HS KB
  rcases hc with ⟨k1, k2⟩ | ⟨k1, k2, lb, k3, hI⟩
  · obtain ⟨rfl, rfl⟩ : vf = .nilFunc ∧ ve = fault (sf r s) := by simpa using k2
    have K1 := Lib.hid k1
    rw [fault_ne k1]
    clear k1 k2 hb3
    go_wp2
    exact bodyPost_ret (v := .tuple #[.int .i64 0, .iface 61 (.int .i64 (sf r s))]) (by simp [results, Tryz.results10, go_sem]) rfl ⟨B3.out, Or.inl ⟨K1.out, by rw [fault_ne K1.out]⟩⟩
  · obtain ⟨rfl, rfl⟩ : vf = .func (.func 30) #[] lb ∧ ve = .nilIface := by simpa using k3
    have z3 : W.heap.size + 4 ≤ w3.heap.size := k2
    have KA := Lib.hid (atMost_any 201 lb _ _ w3 _ hI (by show W.heap.size ≤ w3.heap.size; omega) (fun b hb => ⟨by have q : b < W.heap.size + 4 := hb.2; omega, hb.1⟩) (by omega) (by omega))
    have K1 := Lib.hid k1
    clear hI k3 k2 hb3 k1
    go_wp2_with fail
    refine KA.out.mono ?_
    rintro e w4 ⟨v4, rfl, i4, b4⟩
    have B4 := Lib.hid (B3.out.trans (b4.mono (by show w.heap.size ≤ W.heap.size; omega)))
    obtain ⟨a4, c4, rfl, _⟩ := i4
    have hl : ((btL r s s 109573).take (201 : Int).toNat).length = min 201 (btL r s s 109573).length := List.length_take
    rw [hl]
    obtain ⟨m, hm⟩ : ∃ m, min 201 (btL r s s 109573).length = m := ⟨_, rfl⟩
    rw [hm]
    have HM := Lib.hid hm
    clear hm
    clear b4 KA hl
    go_wp2
    exact bodyPost_ret (v := .tuple #[.int .i64 (m : Int), .nilIface]) (by simp [results, Tryz.results10, go_sem]) rfl ⟨B4.out, Or.inr ⟨K1.out, by rw [HM.out]⟩⟩
end Go.Proofs.YtnnpnalfkcngmacGreatDoor
