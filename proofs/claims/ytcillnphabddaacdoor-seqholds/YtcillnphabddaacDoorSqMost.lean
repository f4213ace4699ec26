/-
  What is proved here: what package seq's atMost lists (a contract over the translation).
-/
import Derived.Test.YtcillnphabddaacDoorSqMade
import Derived.Maps.AppendAt
namespace Go.Proofs.YtcillnphabddaacDoor
open Go.RowKit Go.Shelf Cal Txt
attribute [local go_sem] Oper.semAt_some

/-- An append inside a fence, and where the row then lies. -/
theorem append_at {F : Fence} {n : Nat} {P : Program} (w : World) {ops : Array Oper} {rest : List Oper} {o : Oper} {a : Act} {Q : Exit → Act → World → Prop}
    (hg : o.guard = none) (s x : Operand) (t : TypeId) (hop : o.op = Op.call { callee := Callee.builtin Builtin.append, args := #[s, x], argTypes := #[t, t] })
    (base : Nat) (e : TypeId) (i : TypeInfo) (z : Value) (size bytes : Nat) (h1 : P.underlying t = some (.slice e)) (h2 : P.info? e = some i) (h3 : i.zero = some z) (h4 : i.size = size) (h5 : i.bytes = bytes) (h6 : z.cells.size = size) (h7 : 0 < size)
    (v : Value) (k : Nat) (xs : List Value) (hs : a.eval s = v) (hown : w.ownsRow base e size v k xs) (ad : Addr) (m c : Nat) (news : List Value) (hx : a.eval x = .slice (some ad) m c) (hn : news.length = m * size)
    (hc : ∀ j u, news[j]? = some u → w.cell? (ad.add j) = some u) (h1c : ∀ u ∈ news, u.oneCell' = true) (b1 : k + m ≤ maxLen) (b2 : (k + m) * bytes ≤ 140737488355328) (b3 : base ≤ w.heap.size)
    (hK : ∀ v' w', w'.ownsRow base e size v' (k + m) (xs ++ news) → w.grownBy w' v.ownBlock → (v'.ownBlock = v.ownBlock ∨ v'.ownBlock = some w.heap.size) → wpListIn F n P ops Q rest (a.put o.dst v') w') :
    wpListIn F n P ops Q (o :: rest) a w := by
  refine wpListIn_plain hg fun K hK' => ?_
  obtain ⟨v', w', hrun, r1, r2, _, r3⟩ := run_append_own_at (P := P) w base t o.type e i z size bytes h1 h2 h3 h4 h5 h6 h7 v k xs hown ad m c news hn hc h1c b1 b2 b3
  unfold Oper.wpIn
  refine ⟨?_, ?_⟩
  · simp [Oper.about, hop, resolve, Target.leads, Sem.run_pure]
  · rw [Oper.semAt_plain F _ _ (by rw [hop]; intro c hc'; cases hc')]
    simp [execOp, hop, resolve, invoke, builtin, hs, hx, hrun, Result.andThen]
    exact hK' _ _ (hK v' w' r1 r2 r3)
theorem own_same {W W' : World} {base : Nat} {e : TypeId} {size : Nat} {v : Value} {n : Nat} {xs : List Value} (h : W.ownsRow base e size v n xs) (q : ∀ g, v.ownBlock = some g → W'.heap[g]? = W.heap[g]?) : W'.ownsRow base e size v n xs := by
  refine ⟨h.1, ?_⟩
  rcases h.2 with a | ⟨g, cap, cur, rfl, hb, hg, r⟩
  · exact Or.inl a
  · exact Or.inr ⟨g, cap, cur, rfl, hb, (q g rfl).trans hg, r⟩
/-- A list that is gathered, until there are n. -/
def stM (n : Int) (l : List Int) (d : Int) : List Int × Bool := (l ++ [d], decide (((l.length + 1 : Nat) : Int) ≠ n))
theorem run_most (n : Int) : ∀ (xs l : List Int), (l.length : Int) < n → (run (stM n) l xs).1 = l ++ xs.take (n - l.length).toNat
  | [], l, h => by simp [run_nil]
  | d :: xs, l, h => by
    by_cases k : ((l.length + 1 : Nat) : Int) = n
    · rw [run_no (show stM n l d = (l ++ [d], false) by unfold stM; rw [decide_eq_false (by simpa using k)])]
      rw [show (n - (l.length : Int)).toNat = 1 by omega]
      simp
    · rw [run_yes (show stM n l d = (l ++ [d], true) by unfold stM; rw [decide_eq_true k])]
      rw [run_most n xs (l ++ [d]) (by simp; omega), show (n - (l.length : Int)).toNat = (n - ((l ++ [d]).length : Int)).toNat + 1 by simp; omega]
      simp
/-- The list lies in a box, its row is its own. -/
def MoI (n : Int) (nB lB n1 : Nat) (bd : List Int → Prop) (l : List Int) (S : Nat → Prop) (W : World) : Prop :=
  bd l ∧ ∃ v, (∀ b, S b ↔ (b = nB ∨ b = lB ∨ v.ownBlock = some b)) ∧ Boxed W nB 3 (.int .i64 n) ∧ Boxed W lB 27 v ∧ W.ownsRow n1 3 1 v l.length (nums l)
theorem MoI.frm {n : Int} {nB lB n1 n0 : Nat} {bd : List Int → Prop} (h1 : n0 ≤ nB) (h2 : n0 ≤ lB) (h3 : n0 ≤ n1) : Frm n0 (MoI n nB lB n1 bd) := by
  refine ⟨fun l S W h b hb => ?_, fun l S W W' h q same => ?_⟩
  · obtain ⟨_, v, e, c1, c2, c3⟩ := h
    rcases (e b).1 hb with rfl | rfl | z
    · exact ⟨h1, c1.lt⟩
    · exact ⟨h2, c2.lt⟩
    · have := c3.lt b z; exact ⟨by omega, this.2⟩
  · obtain ⟨b0, v, e, c1, c2, c3⟩ := h
    exact ⟨b0, v, e, bxd_same c1 (same _ ((e _).2 (Or.inl rfl))), bxd_same c2 (same _ ((e _).2 (Or.inr (Or.inl rfl)))), own_same c3 (fun g hg => same g ((e _).2 (Or.inr (Or.inr hg))))⟩
/-- What a step of gathering leaves. -/
theorem mo_step (n : Int) (z : Nat) (l : List Int) (d : Int) (S : Nat → Prop) (X w1 : World) (v : Value) (g' cap' : Nat) (he : ∀ b, S b ↔ (b = z ∨ b = z + 1 ∨ v.ownBlock = some b)) (c1 : Boxed X z 3 (.int .i64 n)) (c2 : Boxed X (z + 1) 27 v) (c3 : X.ownsRow (z + 2) 3 1 v l.length (nums l))
    (hown : w1.ownsRow (z + 2) 3 1 (.slice (some ⟨g', 0, none⟩) (l.length + 1) cap') (l.length + 1) (nums l ++ [.int .i64 d])) (hgrow : (X.alloc (.cells #[.int .i64 d] 3)).grownBy w1 v.ownBlock) (hat : (Value.slice (some ⟨g', 0, none⟩) (l.length + 1) cap').ownBlock = v.ownBlock ∨ (Value.slice (some ⟨g', 0, none⟩) (l.length + 1) cap').ownBlock = some (X.alloc (.cells #[.int .i64 d] 3)).heap.size) :
    Boxed w1 (z + 1) 27 v ∧ Boxed w1 z 3 (.int .i64 n) ∧ ∀ bd : List Int → Prop, bd (l ++ [d]) → ∃ S', Gr S X S' ∧ Kps S X (w1.setCell ⟨z + 1, 0, none⟩ (.slice (some ⟨g', 0, none⟩) (l.length + 1) cap')) ∧ MoI n z (z + 1) (z + 2) bd (l ++ [d]) S' (w1.setCell ⟨z + 1, 0, none⟩ (.slice (some ⟨g', 0, none⟩) (l.length + 1) cap')) := by
  have n1 : some z ≠ v.ownBlock := fun e => by have := (c3.lt z e.symm).1; omega
  have n2 : some (z + 1) ≠ v.ownBlock := fun e => by have := (c3.lt (z + 1) e.symm).1; omega
  have k1 : Boxed w1 z 3 (.int .i64 n) := (c1.alloc _).kept hgrow n1
  have k2 : Boxed w1 (z + 1) 27 v := (c2.alloc _).kept hgrow n2
  have g1 : z + 2 ≤ g' := (hown.lt g' rfl).1
  refine ⟨k2, k1, fun bd hbd => ⟨fun b => b = z ∨ b = z + 1 ∨ b = g', ?_, ?_, hbd, _, fun b => ?_, k1.other (by omega) _, k2.set _, ?_⟩⟩
  · rintro b (rfl | rfl | rfl)
    · exact Or.inl ((he _).2 (Or.inl rfl))
    · exact Or.inl ((he _).2 (Or.inr (Or.inl rfl)))
    · rcases hat with q | q
      · exact Or.inl ((he _).2 (Or.inr (Or.inr q.symm)))
      · refine Or.inr ?_
        have : b = X.heap.size + 1 := by simpa [Value.ownBlock] using q
        omega
  · have kA : Kps S X (X.alloc (.cells #[.int .i64 d] 3)) := Kps.of_below ((Below.refl _ _).alloc (Nat.le_refl _) _)
    have kB : Kps (fun b => v.ownBlock = some b) (X.alloc (.cells #[.int .i64 d] 3)) w1 := ⟨hgrow.os, hgrow.tape, hgrow.output, hgrow.size, fun b hb hS => hgrow.block b hb (fun e => hS e.symm)⟩
    have kC : Kps (fun b => b = z + 1) w1 (w1.setCell ⟨z + 1, 0, none⟩ (.slice (some ⟨g', 0, none⟩) (l.length + 1) cap')) := Kps.set _ rfl
    exact (kA.trans kB (fun b e => Or.inl ((he b).2 (Or.inr (Or.inr e))))).trans kC (fun b e => Or.inl ((he b).2 (Or.inr (Or.inl e))))
  · show (b = z ∨ b = z + 1 ∨ b = g') ↔ (b = z ∨ b = z + 1 ∨ some g' = some b)
    simp [eq_comm]
  · rw [List.length_append, nums_snoc]
    exact hown.kept (grownBy_setCell' w1 (z + 1) _) (Or.inr (fun e => by have : g' = z + 1 := by simpa [Value.ownBlock] using e
                                                                         omega))
theorem nums_len (l : List Int) : (nums l).length = l.length := by simp [nums]
set_option maxRecDepth 100000 in
set_option maxHeartbeats 4000000 in
theorem atMost_any (n : Int) (lb : Array Value) (xs : List Int) (n0 : Nat) (w : World) (T : Nat → Prop) (hI : Itr Tryd.prog 61 lb xs n0 w T) (hn0 : n0 ≤ w.heap.size) (hT : ∀ b, T b → b < w.heap.size ∧ n0 ≤ b) (h0 : 0 ≤ n) (h1 : n ≤ 201) :
    Calls Tryd.prog 31 #[.int .i64 n, .func (.func 61) #[] lb] w fun e w' => ∃ v, e = .returned v ∧ Ints w' v (xs.take n.toNat) ∧ Below n0 w w' := by
  obtain ⟨i0, hi, hz0, hz1, hz2⟩ := info_parts info_per_int
  by_cases hn : n = 0
  · subst hn
    clear hI
    go_enter Tryd.func31, Tryd.ntmps31
    go_wp2
    go_ret
    exact ⟨_, rfl, ⟨none, 0, rfl, Or.inl rfl⟩, (Below.refl _ _).alloc hn0 _⟩
  have hne : (n == 0) = false := by simpa using hn
  refine (callsIn_wide (n := 3)).1 ?_
  refine callsIn_of_wp_marks Tryd.func31 rfl trivial ?_ rfl
  simp only [Tryd.ntmps31, List.size_toArray, List.length_cons, List.length_nil, Nat.reduceAdd, Nat.reduceSub, Array.replicate_succ, Array.replicate_zero, List.push_toArray, List.append_toArray, List.nil_append, List.cons_append]
  obtain ⟨W, hW⟩ : ∃ W, W = (w.alloc (.cells #[.int .i64 n] 3)).alloc (.cells #[.slice none 0 0] 27) := ⟨_, rfl⟩
  have hB : Below w.heap.size w W := by rw [hW]; exact ((Below.refl _ _).alloc (Nat.le_refl _) _).alloc (by simp) _
  have hz : W.heap.size = w.heap.size + 2 := by rw [hW]; simp
  have b1 : Boxed W w.heap.size 3 (.int .i64 n) := by rw [hW]; exact (Boxed.new _ _ _).alloc _
  have b2 : Boxed W (w.heap.size + 1) 27 (.slice none 0 0) := by
    have q := Boxed.new (w.alloc (.cells #[.int .i64 n] 3)) 27 (.slice none 0 0)
    rw [World.size_alloc] at q
    rw [hW]; exact q
  gi_wp2_with fail
  rw [← hW]
  clear hW
  have FI : ∀ bd : List Int → Prop, Frm n0 (MoI n w.heap.size (w.heap.size + 1) (w.heap.size + 2) bd) := fun bd => MoI.frm (by omega) (by omega) (by omega)
  refine rf_law (gf := 61) (lb := lb) rfl (enters_of Tryd.func61 (by kernel_rfl) rfl) hI (hB.mono hn0) hn0 (stM n)
    (MoI n w.heap.size (w.heap.size + 1) (w.heap.size + 2) (fun l => (l.length : Int) < n)) (fun c l S X => c = .exit 0 ∧ MoI n w.heap.size (w.heap.size + 1) (w.heap.size + 2) (fun _ => True) l S X)
    (FI _) (fun c => ⟨fun y S X h => (FI _).lt y S X h.2, fun y S X X' h q p => ⟨h.1, (FI _).on y S X X' h.2 q p⟩⟩) [] (fun b => b = w.heap.size ∨ b = w.heap.size + 1) ⟨by simp; omega, .slice none 0 0, fun b => by simp [Value.ownBlock], b1, b2, World.ownsRow_nil _ _ _ _⟩ ?hT rfl ?a1 ?assign ?body ?done ?stop
  case hT =>
    intro b hb
    obtain ⟨t1, t2⟩ := hT b hb
    exact ⟨t1, t2, by omega, hB.block b t1⟩
  case assign =>
    intro l' d X K hK
    gi_wp2
    exact hK
  case body =>
    clear b1 b2 hI hT hB
    rintro l' l S d X ⟨hlen, v, he, c1, c2, c3⟩ hnX
    have HV := Lib.hid he
    have HC1 := Lib.hid c1
    have HC2 := Lib.hid c2
    have HO := Lib.hid c3
    have ll : l.length < 201 := by omega
    have zX : w.heap.size + 2 ≤ X.heap.size := by have := c2.lt; omega
    have k1 := c1.cell
    have k2 := c2.cell
    clear he c1 c2 c3
    rcases hcq : (((l.length + 1 : Nat) : Int) == n) with _ | _
    · have EF : Hid (stM n l d = (l ++ [d], true)) := Lib.hid (by unfold stM; rw [decide_eq_true (by simpa using hcq)])
      have LL : Hid (((l ++ [d]).length : Int) < n) := Lib.hid (by have : ((l.length + 1 : Nat) : Int) ≠ n := by simpa using hcq
                                                                   simp; omega)
      gi_wp2_with (gi_at_builtin; refine append_at _ rfl _ _ 27 rfl (w.heap.size + 2) 3 i0 (.int .i64 0) 1 8 Tryd.underlying27 hi hz0 hz1 hz2 rfl (by decide) _ _ _ rfl (HO.out.alloc _) ⟨X.heap.size, 0, none⟩ 1 1 [.int .i64 d] rfl rfl (cell_one_new _ _ _) (by simp [Value.oneCell']) (by unfold maxLen; omega) (by omega) (by simp; omega) ?_; intro v' w1 hown' hgrow hat; obtain ⟨g', cap', rfl⟩ := ownsRow_succ hown'; have M1 := Lib.hid (mo_step n w.heap.size l d S X w1 v g' cap' HV.out HC1.out HC2.out HO.out hown' hgrow hat); have hc1 := M1.out.1.cell; have hf1 := M1.out.1.frozen; have hn1 := M1.out.2.1.cell; clear hown' hgrow hat k1 k2)
      obtain ⟨S', u1, u2, u3⟩ := M1.out.2.2 (fun l => (l.length : Int) < n) LL.out
      exact ⟨_, S', EF.out, u1, u2, u3⟩
    · have EF : Hid (stM n l d = (l ++ [d], false)) := Lib.hid (by unfold stM; rw [decide_eq_false (by simpa using hcq)])
      gi_wp2_with (gi_at_builtin; refine append_at _ rfl _ _ 27 rfl (w.heap.size + 2) 3 i0 (.int .i64 0) 1 8 Tryd.underlying27 hi hz0 hz1 hz2 rfl (by decide) _ _ _ rfl (HO.out.alloc _) ⟨X.heap.size, 0, none⟩ 1 1 [.int .i64 d] rfl rfl (cell_one_new _ _ _) (by simp [Value.oneCell']) (by unfold maxLen; omega) (by omega) (by simp; omega) ?_; intro v' w1 hown' hgrow hat; obtain ⟨g', cap', rfl⟩ := ownsRow_succ hown'; have M1 := Lib.hid (mo_step n w.heap.size l d S X w1 v g' cap' HV.out HC1.out HC2.out HO.out hown' hgrow hat); have hc1 := M1.out.1.cell; have hf1 := M1.out.1.frozen; have hn1 := M1.out.2.1.cell; clear hown' hgrow hat k1 k2)
      obtain ⟨S', u1, u2, u3⟩ := M1.out.2.2 (fun _ => True) trivial
      exact ⟨_, S', EF.out, u1, u2, rfl, u3⟩
  case done =>
    rintro D y S X hD hSD hrun ⟨_, v, he, c1, c2, c3⟩ hg3 hk3 hDd
    have ZZ := Lib.hid (show Ints (X.putObj D (.deferred none)) v (xs.take n.toNat) ∧ Below n0 w (X.putObj D (.deferred none)) from by
      have kD : Kps (fun b => b = D) X (X.putObj D (.deferred none)) := Kps.put _ rfl
      have kW : Kps (fun b => (b = w.heap.size ∨ b = w.heap.size + 1) ∨ T b) w X := (Kps.of_below hB).trans hk3 (Gr.refl _ _)
      have hBX : Below n0 w X := kW.below (fun b hb => hb.elim (fun z => by omega) (fun z => (hT b z).2)) hn0
      have hBD : Below n0 w (X.putObj D (.deferred none)) := hBX.trans (kD.below (fun b e => by omega) (Nat.le_trans hn0 hBX.size))
      have IN : Ints (X.putObj D (.deferred none)) v (xs.take n.toNat) := by
        have q := ow_ints (ownsRow_putObj c3 (.deferred none) hDd rfl)
        have r := run_most n xs [] (by simp; omega)
        rw [hrun] at r
        have r' : y = xs.take n.toNat := by simpa using r
        rwa [r'] at q
      exact ⟨IN, hBD⟩)
    have k2 := c2.cell
    clear hrun he c1 hg3 hk3 b1 b2 hI
    obtain ⟨av, cv, rfl⟩ : ∃ a c, v = .slice a y.length c := by
      rcases c3.2 with ⟨q, q0⟩ | ⟨g, cap, _, q, _⟩
      · exact ⟨none, 0, by rw [q, q0]⟩
      · exact ⟨_, _, q⟩
    clear c3 c2
    gi_wp2
    refine ⟨by simp, .inl ⟨_, _, rfl, run_takeDeferred hDd, ?_⟩⟩
    exact ⟨.slice av y.length cv, by simp [results, Tryd.results31, go_sem], _, rfl, ZZ.out⟩
  case stop =>
    rintro D c y S X hD hSD hrun ⟨rfl, _, v, he, c1, c2, c3⟩ hg3 hk3 hDd
    have ZZ := Lib.hid (show Ints (X.putObj D (.deferred none)) v (xs.take n.toNat) ∧ Below n0 w (X.putObj D (.deferred none)) from by
      have kD : Kps (fun b => b = D) X (X.putObj D (.deferred none)) := Kps.put _ rfl
      have kW : Kps (fun b => (b = w.heap.size ∨ b = w.heap.size + 1) ∨ T b) w X := (Kps.of_below hB).trans hk3 (Gr.refl _ _)
      have hBX : Below n0 w X := kW.below (fun b hb => hb.elim (fun z => by omega) (fun z => (hT b z).2)) hn0
      have hBD : Below n0 w (X.putObj D (.deferred none)) := hBX.trans (kD.below (fun b e => by omega) (Nat.le_trans hn0 hBX.size))
      have IN : Ints (X.putObj D (.deferred none)) v (xs.take n.toNat) := by
        have q := ow_ints (ownsRow_putObj c3 (.deferred none) hDd rfl)
        have r := run_most n xs [] (by simp; omega)
        rw [hrun] at r
        have r' : y = xs.take n.toNat := by simpa using r
        rwa [r'] at q
      exact ⟨IN, hBD⟩)
    have k2 := c2.cell
    clear hrun he c1 hg3 hk3 b1 b2 hI
    obtain ⟨av, cv, rfl⟩ : ∃ a c, v = .slice a y.length c := by
      rcases c3.2 with ⟨q, q0⟩ | ⟨g, cap, _, q, _⟩
      · exact ⟨none, 0, by rw [q, q0]⟩
      · exact ⟨_, _, q⟩
    clear c3 c2
    gi_wp2
    refine ⟨by simp, .inl ⟨_, _, rfl, run_takeDeferred hDd, ?_⟩⟩
    exact ⟨.slice av y.length cv, by simp [results, Tryd.results31, go_sem], _, rfl, ZZ.out⟩
end Go.Proofs.YtcillnphabddaacDoor
