/-
  What is proved here: what package seq's between answers (a contract over the translation).
  What is proved here: what package seq's atMost lists (a contract over the translation).
-/
import Derived.Test.YtkmmncebekcegaaGreatDoorSqBet
import Derived.Maps.AppendAt
namespace Go.Proofs.YtkmmncebekcegaaGreatDoor
open Go.RowKit Cal Txt

/-- What is wrong with a rule, or a start. -/
def sf (r : Rl) (s : Int) : Int := if rf r = 0 then (if 1 ≤ s ∧ s ≤ 109573 then 0 else 1) else rf r
/-- Up to where: Until, too. -/
def tl (r : Rl) (t : Int) : Int := if r.till = 0 then t else min t r.till
/-- The days of a rule from fr to t, as they are handed out. -/
def btL (r : Rl) (s fr t : Int) : List Int := btw fr (tl r t) r.count 0 (s :: beh s (flat r s (tl r t) (psd r s fr)))
/-- What between answers. -/
def BetN (w : World) (n0 : Nat) (r : Rl) (s fr t : Int) (e : Ending) (w' : World) : Prop :=
  Below w.heap.size w w' ∧ ((sf r s ≠ 0 ∧ e = .returned (.tuple #[.nilFunc, fault (sf r s)])) ∨
    (sf r s = 0 ∧ w.heap.size + 4 ≤ w'.heap.size ∧ ∃ lb, e = .returned (.tuple #[.func (.func 188) #[] lb, .nilIface]) ∧ Itr Tryz.prog 188 lb (btL r s fr t) n0 w' (fun b => w.heap.size ≤ b ∧ b < w.heap.size + 4)))
def BetA (w : World) (r : Rl) (s fr t : Int) (e : Ending) (w' : World) : Prop := BetN w w.heap.size r s fr t e w'
theorem fault_ne {k : Int} (h : k ≠ 0) : fault k = .iface 64 (.int .i64 k) := if_neg h
set_option maxRecDepth 100000 in
set_option maxHeartbeats 4000000 in
theorem between_env (n0 : Nat) (r : Rl) (v : Value) (s fr t : Int) (w : World) (hE : Env n0 w v r) (hfr : fr ≤ s ∨ fr ≤ 9223372036854775807) :
    Calls Tryz.prog 178 #[v, .int .i64 s, .int .i64 fr, .int .i64 t] w (BetN w n0 r s fr t) := by
  have n0w := hE.1
  have hv := (hE.2 w (Below.refl _ _)).1
  obtain ⟨am, ad, aw, ap, cm, cd, cw, cp, rfl⟩ := hv.form
  obtain ⟨W, hW, hB, hz, h0, h1, h2, h3⟩ := four_new w r am ad aw ap cm cd cw cp s fr t
  have EV := Lib.hid hE
  have KC := Lib.hid (check_any r _ W (hv.on hB))
  have G1 : Hid (∀ X, Below W.heap.size W X → RlB X w.heap.size r am ad aw ap cm cd cw cp ∧ Boxed X (w.heap.size + 1) 3 (.int .i64 s) ∧ Boxed X (w.heap.size + 2) 3 (.int .i64 fr) ∧ Boxed X (w.heap.size + 3) 3 (.int .i64 t) ∧ Below w.heap.size w X) := Lib.hid (fun X q => ⟨(q.block _ (by omega)).trans h0, bxd_same h1 (q.block _ h1.lt), bxd_same h2 (q.block _ h2.lt), bxd_same h3 (q.block _ h3.lt), hB.trans (q.mono hB.size)⟩)
  have HW := Lib.hid hW
  clear h0 h1 h2 h3 hv hE hW hB
  go_enter Tryz.func178, Tryz.ntmps178
  go_wp2_with fail
  rw [← HW.out]
  refine KC.out.mono ?_
  rintro e w1 ⟨rfl, hb⟩
  obtain ⟨b1, b2, b3, b4, hB1⟩ := G1.out w1 hb
  have z1 : w.heap.size + 4 ≤ w1.heap.size := by have := hb.size; omega
  clear KC G1 HW hb
  by_cases hrf : rf r = 0
  · have c2 := b2.cell
    rw [hrf, show fault 0 = Value.nilIface from rfl]
    by_cases s1 : 1 ≤ s
    · by_cases s2 : s ≤ 109573
      · have SF : Hid (sf r s = 0) := Lib.hid ((if_pos hrf).trans (if_pos ⟨s1, s2⟩))
        have he := (rf_nums hrf).2
        have t1 : decide (s < 1) = false := decide_eq_false (by omega)
        have t2 : decide (s > 109573) = false := decide_eq_false (by omega)
        clear hrf
        go_wp2_with fail
        go_big_quiet ((go_at_call 85; exact Calls.quiet_of_same (last_any _)))
        obtain ⟨X, hX⟩ : ∃ X, X = w1.drewN nq := ⟨_, rfl⟩
        have hBX : Below w1.heap.size w1 X := by rw [hX]; exact below_drewN (Below.refl _ _) _
        rw [← hX]
        clear hX c2
        replace b1 : RlB X w.heap.size r am ad aw ap cm cd cw cp := (hBX.block _ (by omega)).trans b1
        replace b2 := bxd_same b2 (hBX.block _ b2.lt)
        replace b3 := bxd_same b3 (hBX.block _ b3.lt)
        replace b4 := bxd_same b4 (hBX.block _ b4.lt)
        replace hB1 := hB1.trans (hBX.mono hB1.size)
        have zX : w.heap.size + 4 ≤ X.heap.size := Nat.le_trans z1 hBX.size
        clear hBX
        obtain ⟨_, _, _, q3, _⟩ := b1.box
        by_cases hti : r.till = 0
        · have ht0 : (r.till == 0) = true := by simpa using hti
          have TL : Hid (tl r t = t) := Lib.hid (if_pos hti)
          have IT := Lib.hid ((bet_itr r am ad aw ap cm cd cw cp s fr t n0 X w.heap.size (w.heap.size + 1) (w.heap.size + 2) (w.heap.size + 3) (EV.out.on (hB1.mono n0w)) b1 b2 b3 b4 he s1 hfr).more (T' := fun b => w.heap.size ≤ b ∧ b < w.heap.size + 4) (fun b hb => by omega))
          have HB := Lib.hid hB1
          clear hti b1 b2 b3 b4 hB1
          go_wp2
          exact bodyPost_ret (v := .tuple #[.func (.func 188) #[] #[.pointer (some ⟨w.heap.size, 0, none⟩), .pointer (some ⟨w.heap.size + 1, 0, none⟩), .pointer (some ⟨w.heap.size + 2, 0, none⟩), .pointer (some ⟨w.heap.size + 3, 0, none⟩)], .nilIface]) (by simp [results, Tryz.results178, go_sem]) rfl ⟨HB.out, Or.inr ⟨SF.out, zX, _, rfl, by unfold btL; rw [TL.out]; exact IT.out⟩⟩
        · have ht0 : (r.till == 0) = false := by simpa using hti
          have TL : Hid (tl r t = min t r.till) := Lib.hid (if_neg hti)
          have c4 := b4.cell
          have f4 := b4.frozen
          have W5 : Hid (∀ u : Int, u = min t r.till → (∀ b, Below w.heap.size w (X.setCell ⟨w.heap.size + 3, 0, none⟩ (.int .i64 u)) ∧ w.heap.size + 4 ≤ (X.setCell ⟨w.heap.size + 3, 0, none⟩ (.int .i64 u)).heap.size ∧ (b = 0 → Itr Tryz.prog 188 #[.pointer (some ⟨w.heap.size, 0, none⟩), .pointer (some ⟨w.heap.size + 1, 0, none⟩), .pointer (some ⟨w.heap.size + 2, 0, none⟩), .pointer (some ⟨w.heap.size + 3, 0, none⟩)] (btL r s fr t) n0 (X.setCell ⟨w.heap.size + 3, 0, none⟩ (.int .i64 u)) (fun b => w.heap.size ≤ b ∧ b < w.heap.size + 4)))) := Lib.hid (fun u hu b => by
            have hB2 : Below w.heap.size w (X.setCell ⟨w.heap.size + 3, 0, none⟩ (.int .i64 u)) := hB1.setCell (by show w.heap.size ≤ w.heap.size + 3; omega) _
            have ne : ∀ {b : Nat}, b ≠ w.heap.size + 3 → (X.setCell ⟨w.heap.size + 3, 0, none⟩ (.int .i64 u)).heap[b]? = X.heap[b]? := fun h => Below.heap_setCell _ _ _ _ h
            refine ⟨hB2, by simpa [World.setCell] using zX, fun _ => ?_⟩
            have IT := (bet_itr r am ad aw ap cm cd cw cp s fr u n0 (X.setCell ⟨w.heap.size + 3, 0, none⟩ (.int .i64 u)) w.heap.size (w.heap.size + 1) (w.heap.size + 2) (w.heap.size + 3) (EV.out.on (hB2.mono n0w)) ((ne (by omega)).trans b1) (bxd_same b2 (ne (by omega))) (bxd_same b3 (ne (by omega))) (b4.set _) he s1 hfr).more (T' := fun b => w.heap.size ≤ b ∧ b < w.heap.size + 4) (fun b hb => by omega)
            unfold btL
            rw [TL.out, ← hu]
            exact IT)
          clear hti b1 b2 b3 b4 hB1
          by_cases hmn : t ≤ r.till
          · have M1 : min t r.till = t := Int.min_eq_left hmn
            obtain ⟨g1, g2, g3⟩ := W5.out t M1.symm 0
            have H1 := Lib.hid g1
            have H2 := Lib.hid g2
            have H3 := Lib.hid (g3 rfl)
            clear g1 g2 g3 W5 M1
            go_wp2
            exact bodyPost_ret (v := .tuple #[.func (.func 188) #[] #[.pointer (some ⟨w.heap.size, 0, none⟩), .pointer (some ⟨w.heap.size + 1, 0, none⟩), .pointer (some ⟨w.heap.size + 2, 0, none⟩), .pointer (some ⟨w.heap.size + 3, 0, none⟩)], .nilIface]) (by simp [results, Tryz.results178, go_sem]) rfl ⟨H1.out, Or.inr ⟨SF.out, H2.out, _, rfl, H3.out⟩⟩
          · have M1 : min t r.till = r.till := Int.min_eq_right (by omega)
            obtain ⟨g1, g2, g3⟩ := W5.out r.till M1.symm 0
            have H1 := Lib.hid g1
            have H2 := Lib.hid g2
            have H3 := Lib.hid (g3 rfl)
            clear g1 g2 g3 W5 M1
            go_wp2
            exact bodyPost_ret (v := .tuple #[.func (.func 188) #[] #[.pointer (some ⟨w.heap.size, 0, none⟩), .pointer (some ⟨w.heap.size + 1, 0, none⟩), .pointer (some ⟨w.heap.size + 2, 0, none⟩), .pointer (some ⟨w.heap.size + 3, 0, none⟩)], .nilIface]) (by simp [results, Tryz.results178, go_sem]) rfl ⟨H1.out, Or.inr ⟨SF.out, H2.out, _, rfl, H3.out⟩⟩
      · have SF : Hid (sf r s = 1) := Lib.hid ((if_pos hrf).trans (if_neg (by omega)))
        have t1 : decide (s < 1) = false := decide_eq_false (by omega)
        have t2 : decide (s > 109573) = true := decide_eq_true (by omega)
        have HB := Lib.hid hB1
        clear hrf hB1 b1 b2 b3 b4
        go_wp2_with fail
        go_big_quiet ((go_at_call 85; exact Calls.quiet_of_same (last_any _)))
        go_wp2
        exact bodyPost_ret (v := .tuple #[.nilFunc, errRange]) (by simp [results, Tryz.results178, go_sem]) rfl ⟨below_drewN HB.out _, Or.inl ⟨by rw [SF.out]; decide, by rw [SF.out]; rfl⟩⟩
    · have SF : Hid (sf r s = 1) := Lib.hid ((if_pos hrf).trans (if_neg (by omega)))
      have t1 : decide (s < 1) = true := decide_eq_true (by omega)
      have HB := Lib.hid hB1
      clear hrf hB1 b1 b2 b3 b4
      go_wp2_with fail
      go_big_quiet (fail)
      go_wp2
      exact bodyPost_ret (v := .tuple #[.nilFunc, errRange]) (by simp [results, Tryz.results178, go_sem]) rfl ⟨below_drewN HB.out _, Or.inl ⟨by rw [SF.out]; decide, by rw [SF.out]; rfl⟩⟩
  · have SF : Hid (sf r s = rf r) := Lib.hid (if_neg hrf)
    rw [fault_ne hrf]
    have HF := Lib.hid hrf
    have HB := Lib.hid hB1
    clear hrf hB1 b1 b2 b3 b4
    go_wp2
    exact bodyPost_ret (v := .tuple #[.nilFunc, .iface 64 (.int .i64 (rf r))]) (by simp [results, Tryz.results178, go_sem]) rfl ⟨HB.out, Or.inl ⟨by rw [SF.out]; exact HF.out, by rw [SF.out, fault_ne HF.out]⟩⟩
theorem between_any (r : Rl) (v : Value) (s fr t : Int) (w : World) (hv : RuleIn w v r) (hT : Tab w) (hfr : fr ≤ s ∨ fr ≤ 9223372036854775807) :
    Calls Tryz.prog 178 #[v, .int .i64 s, .int .i64 fr, .int .i64 t] w (BetA w r s fr t) := between_env w.heap.size r v s fr t w (Env.of hv hT) hfr
end Go.Proofs.YtkmmncebekcegaaGreatDoor
namespace Go.Proofs.YtkmmncebekcegaaGreatDoor
open Go.RowKit Go.Shelf Cal Txt
attribute [local go_sem] Oper.semAt_some

/-- An append inside a fence, and where the row then lies. -/
theorem append_at {F : Fence} {n : Nat} {P : Program} (w : World) {ops : Array Oper} {rest : List Oper} {o : Oper} {a : Act} {Q : Exit → Act → World → Prop}
    (hg : o.guard = none) (s x : Operand) (t : TypeId) (hop : o.op = Op.call { callee := Callee.builtin Builtin.append, args := #[s, x], argTypes := #[t, t] })
    (base : Nat) (e : TypeId) (i : TypeInfo) (z : Value) (size bytes : Nat) (h1 : P.underlying t = some (.slice e)) (h2 : P.info? e = some i) (h3 : i.zero = some z) (h4 : i.size = size) (h5 : i.bytes = bytes) (h6 : z.cells.size = size) (h7 : 0 < size)
    (v : Value) (k : Nat) (xs : List Value) (hs : a.eval s = v) (hown : w.ownsRow base e size v k xs) (ad : Addr) (m c : Nat) (news : List Value) (hx : a.eval x = .slice (some ad) m c) (hn : news.length = m * size)
    (hc : ∀ j u, news[j]? = some u → w.cell? (ad.add j) = some u) (h1c : ∀ u ∈ news, u.oneCell' = true) (b1 : k + m ≤ maxLen) (b2 : (k + m) * bytes ≤ 140737488355328) (b3 : base ≤ w.heap.size)
    (hK : ∀ v' w', w'.ownsRow base e size v' (k + m) (xs ++ news) → w.grownBy w' v.ownBlock → (v'.ownBlock = v.ownBlock ∨ v'.ownBlock = some w.heap.size) → wpListIn F n P ops Q rest (a.put o.dst v') w') :
    wpListIn F n P ops Q (o :: rest) a w := by
  refine wpListIn_plain hg fun K hK' => ?_
  obtain ⟨v', w', hrun, r1, r2, _, r3⟩ := run_append_own_at (P := P) w base t o.type e i z size bytes h1 h2 h3 h4 h5 h6 h7 v k xs hown ad m c news hn hc h1c b1 b2 b3
  unfold Oper.wpIn
  refine ⟨?_, ?_⟩
  · simp [Oper.about, hop, resolve, Target.leads, Sem.run_pure]
  · rw [Oper.semAt_plain F _ _ (by rw [hop]; intro c hc'; cases hc')]
    simp [execOp, hop, resolve, invoke, builtin, hs, hx, hrun, Result.andThen]
    exact hK' _ _ (hK v' w' r1 r2 r3)
theorem own_same {W W' : World} {base : Nat} {e : TypeId} {size : Nat} {v : Value} {n : Nat} {xs : List Value} (h : W.ownsRow base e size v n xs) (q : ∀ g, v.ownBlock = some g → W'.heap[g]? = W.heap[g]?) : W'.ownsRow base e size v n xs := by
  refine ⟨h.1, ?_⟩
  rcases h.2 with a | ⟨g, cap, cur, rfl, hb, hg, r⟩
  · exact Or.inl a
  · exact Or.inr ⟨g, cap, cur, rfl, hb, (q g rfl).trans hg, r⟩
/-- A list that is gathered, until there are n. -/
def stM (n : Int) (l : List Int) (d : Int) : List Int × Bool := (l ++ [d], decide (((l.length + 1 : Nat) : Int) ≠ n))
theorem run_most (n : Int) : ∀ (xs l : List Int), (l.length : Int) < n → (run (stM n) l xs).1 = l ++ xs.take (n - l.length).toNat
  | [], l, h => by simp [run_nil]
  | d :: xs, l, h => by
    by_cases k : ((l.length + 1 : Nat) : Int) = n
    · rw [run_no (show stM n l d = (l ++ [d], false) by unfold stM; rw [decide_eq_false (by simpa using k)])]
      rw [show (n - (l.length : Int)).toNat = 1 by omega]
      simp
    · rw [run_yes (show stM n l d = (l ++ [d], true) by unfold stM; rw [decide_eq_true k])]
      rw [run_most n xs (l ++ [d]) (by simp; omega), show (n - (l.length : Int)).toNat = (n - ((l ++ [d]).length : Int)).toNat + 1 by simp; omega]
      simp
/-- The list lies in a box, its row is its own. -/
def MoI (n : Int) (nB lB n1 : Nat) (bd : List Int → Prop) (l : List Int) (S : Nat → Prop) (W : World) : Prop :=
  bd l ∧ ∃ v, (∀ b, S b ↔ (b = nB ∨ b = lB ∨ v.ownBlock = some b)) ∧ Boxed W nB 3 (.int .i64 n) ∧ Boxed W lB 25 v ∧ W.ownsRow n1 3 1 v l.length (nums l)
theorem MoI.frm {n : Int} {nB lB n1 n0 : Nat} {bd : List Int → Prop} (h1 : n0 ≤ nB) (h2 : n0 ≤ lB) (h3 : n0 ≤ n1) : Frm n0 (MoI n nB lB n1 bd) := by
  refine ⟨fun l S W h b hb => ?_, fun l S W W' h q same => ?_⟩
  · obtain ⟨_, v, e, c1, c2, c3⟩ := h
    rcases (e b).1 hb with rfl | rfl | z
    · exact ⟨h1, c1.lt⟩
    · exact ⟨h2, c2.lt⟩
    · have := c3.lt b z; exact ⟨by omega, this.2⟩
  · obtain ⟨b0, v, e, c1, c2, c3⟩ := h
    exact ⟨b0, v, e, bxd_same c1 (same _ ((e _).2 (Or.inl rfl))), bxd_same c2 (same _ ((e _).2 (Or.inr (Or.inl rfl)))), own_same c3 (fun g hg => same g ((e _).2 (Or.inr (Or.inr hg))))⟩
/-- What a step of gathering leaves. -/
theorem mo_step (n : Int) (z : Nat) (l : List Int) (d : Int) (S : Nat → Prop) (X w1 : World) (v : Value) (g' cap' : Nat) (he : ∀ b, S b ↔ (b = z ∨ b = z + 1 ∨ v.ownBlock = some b)) (c1 : Boxed X z 3 (.int .i64 n)) (c2 : Boxed X (z + 1) 25 v) (c3 : X.ownsRow (z + 2) 3 1 v l.length (nums l))
    (hown : w1.ownsRow (z + 2) 3 1 (.slice (some ⟨g', 0, none⟩) (l.length + 1) cap') (l.length + 1) (nums l ++ [.int .i64 d])) (hgrow : (X.alloc (.cells #[.int .i64 d] 3)).grownBy w1 v.ownBlock) (hat : (Value.slice (some ⟨g', 0, none⟩) (l.length + 1) cap').ownBlock = v.ownBlock ∨ (Value.slice (some ⟨g', 0, none⟩) (l.length + 1) cap').ownBlock = some (X.alloc (.cells #[.int .i64 d] 3)).heap.size) :
    Boxed w1 (z + 1) 25 v ∧ Boxed w1 z 3 (.int .i64 n) ∧ ∀ bd : List Int → Prop, bd (l ++ [d]) → ∃ S', Gr S X S' ∧ Kps S X (w1.setCell ⟨z + 1, 0, none⟩ (.slice (some ⟨g', 0, none⟩) (l.length + 1) cap')) ∧ MoI n z (z + 1) (z + 2) bd (l ++ [d]) S' (w1.setCell ⟨z + 1, 0, none⟩ (.slice (some ⟨g', 0, none⟩) (l.length + 1) cap')) := by
  have n1 : some z ≠ v.ownBlock := fun e => by have := (c3.lt z e.symm).1; omega
  have n2 : some (z + 1) ≠ v.ownBlock := fun e => by have := (c3.lt (z + 1) e.symm).1; omega
  have k1 : Boxed w1 z 3 (.int .i64 n) := (c1.alloc _).kept hgrow n1
  have k2 : Boxed w1 (z + 1) 25 v := (c2.alloc _).kept hgrow n2
  have g1 : z + 2 ≤ g' := (hown.lt g' rfl).1
  refine ⟨k2, k1, fun bd hbd => ⟨fun b => b = z ∨ b = z + 1 ∨ b = g', ?_, ?_, hbd, _, fun b => ?_, k1.other (by omega) _, k2.set _, ?_⟩⟩
  · rintro b (rfl | rfl | rfl)
    · exact Or.inl ((he _).2 (Or.inl rfl))
    · exact Or.inl ((he _).2 (Or.inr (Or.inl rfl)))
    · rcases hat with q | q
      · exact Or.inl ((he _).2 (Or.inr (Or.inr q.symm)))
      · refine Or.inr ?_
        have : b = X.heap.size + 1 := by simpa [Value.ownBlock] using q
        omega
  · have kA : Kps S X (X.alloc (.cells #[.int .i64 d] 3)) := Kps.of_below ((Below.refl _ _).alloc (Nat.le_refl _) _)
    have kB : Kps (fun b => v.ownBlock = some b) (X.alloc (.cells #[.int .i64 d] 3)) w1 := ⟨hgrow.os, hgrow.tape, hgrow.output, hgrow.size, fun b hb hS => hgrow.block b hb (fun e => hS e.symm)⟩
    have kC : Kps (fun b => b = z + 1) w1 (w1.setCell ⟨z + 1, 0, none⟩ (.slice (some ⟨g', 0, none⟩) (l.length + 1) cap')) := Kps.set _ rfl
    exact (kA.trans kB (fun b e => Or.inl ((he b).2 (Or.inr (Or.inr e))))).trans kC (fun b e => Or.inl ((he b).2 (Or.inr (Or.inl e))))
  · show (b = z ∨ b = z + 1 ∨ b = g') ↔ (b = z ∨ b = z + 1 ∨ some g' = some b)
    simp [eq_comm]
  · rw [List.length_append, nums_snoc]
    exact hown.kept (grownBy_setCell' w1 (z + 1) _) (Or.inr (fun e => by have : g' = z + 1 := by simpa [Value.ownBlock] using e
                                                                         omega))
theorem nums_len (l : List Int) : (nums l).length = l.length := by simp [nums]
end Go.Proofs.YtkmmncebekcegaaGreatDoor
