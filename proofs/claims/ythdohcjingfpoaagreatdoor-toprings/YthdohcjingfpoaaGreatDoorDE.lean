/-
  What is proved here: what slices.AppendSeq, slices.Collect and seq.All list (contracts over the translation).
  What is proved here: what event.dayOf answers, and what event.ofStart answers of an event that repeats (contracts over the translation).
-/
import Derived.Test.YthdohcjingfpoaaGreatDoorBJ
import Derived.Test.YthdohcjingfpoaaGreatDoorBK
import Derived.Test.YthdohcjingfpoaaGreatDoorBW
import Derived.Deep.RegionHeld3
import Derived.Deep.Cut
namespace Go.Proofs.YthdohcjingfpoaaGreatDoor
open Go.RowKit Go.Shelf Cal Txt
attribute [local go_sem] Oper.semAt_some

/-- A list that is gathered, all of it. -/
def stC (l : List Int) (d : Int) : List Int × Bool := (l ++ [d], true)
theorem run_coll : ∀ (xs l : List Int), run stC l xs = (l ++ xs, true)
  | [], l => by simp [run_nil]
  | d :: xs, l => by
    rw [run_yes (show stC l d = (l ++ [d], true) from rfl), run_coll xs (l ++ [d])]
    simp
/-- The list lies in a box, its row is its own. -/
def CoI (lB n1 m : Nat) (l : List Int) (S : Nat → Prop) (W : World) : Prop :=
  l.length ≤ m ∧ ∃ v, (∀ b, S b ↔ (b = lB ∨ v.ownBlock = some b)) ∧ Boxed W lB 34 v ∧ W.ownsRow n1 3 1 v l.length (nums l)
theorem CoI.frm {lB n1 n0 m : Nat} (h2 : n0 ≤ lB) (h3 : n0 ≤ n1) : Frm n0 (CoI lB n1 m) := by
  refine ⟨fun l S W h b hb => ?_, fun l S W W' h q same => ?_⟩
  · obtain ⟨_, v, e, c2, c3⟩ := h
    rcases (e b).1 hb with rfl | z
    · exact ⟨h2, c2.lt⟩
    · have := c3.lt b z; exact ⟨by omega, this.2⟩
  · obtain ⟨b0, v, e, c2, c3⟩ := h
    exact ⟨b0, v, e, bxd_same c2 (same _ ((e _).2 (Or.inl rfl))), own_same c3 (fun g hg => same g ((e _).2 (Or.inr hg)))⟩
/-- What a step of gathering leaves. -/
theorem co_step (m z : Nat) (l : List Int) (d : Int) (S : Nat → Prop) (X w1 : World) (v : Value) (g' cap' : Nat) (he : ∀ b, S b ↔ (b = z ∨ v.ownBlock = some b)) (c2 : Boxed X z 34 v) (c3 : X.ownsRow (z + 1) 3 1 v l.length (nums l)) (hm : l.length + 1 ≤ m)
    (hown : w1.ownsRow (z + 1) 3 1 (.slice (some ⟨g', 0, none⟩) (l.length + 1) cap') (l.length + 1) (nums l ++ [.int .i64 d])) (hgrow : (X.alloc (.cells #[.int .i64 d] 3)).grownBy w1 v.ownBlock) (hat : (Value.slice (some ⟨g', 0, none⟩) (l.length + 1) cap').ownBlock = v.ownBlock ∨ (Value.slice (some ⟨g', 0, none⟩) (l.length + 1) cap').ownBlock = some (X.alloc (.cells #[.int .i64 d] 3)).heap.size) :
    Boxed w1 z 34 v ∧ ∃ S', Gr S X S' ∧ Kps S X (w1.setCell ⟨z, 0, none⟩ (.slice (some ⟨g', 0, none⟩) (l.length + 1) cap')) ∧ CoI z (z + 1) m (l ++ [d]) S' (w1.setCell ⟨z, 0, none⟩ (.slice (some ⟨g', 0, none⟩) (l.length + 1) cap')) := by
  have n2 : some z ≠ v.ownBlock := fun e => by have := (c3.lt z e.symm).1; omega
  have k2 : Boxed w1 z 34 v := (c2.alloc _).kept hgrow n2
  have g1 : z + 1 ≤ g' := (hown.lt g' rfl).1
  refine ⟨k2, fun b => b = z ∨ b = g', ?_, ?_, by simp; omega, _, fun b => ?_, k2.set _, ?_⟩
  · rintro b (rfl | rfl)
    · exact Or.inl ((he _).2 (Or.inl rfl))
    · rcases hat with q | q
      · exact Or.inl ((he _).2 (Or.inr q.symm))
      · refine Or.inr ?_
        have : b = X.heap.size + 1 := by simpa [Value.ownBlock] using q
        omega
  · have kA : Kps S X (X.alloc (.cells #[.int .i64 d] 3)) := Kps.of_below ((Below.refl _ _).alloc (Nat.le_refl _) _)
    have kB : Kps (fun b => v.ownBlock = some b) (X.alloc (.cells #[.int .i64 d] 3)) w1 := ⟨hgrow.os, hgrow.tape, hgrow.output, hgrow.size, fun b hb hS => hgrow.block b hb (fun e => hS e.symm)⟩
    have kC : Kps (fun b => b = z) w1 (w1.setCell ⟨z, 0, none⟩ (.slice (some ⟨g', 0, none⟩) (l.length + 1) cap')) := Kps.set _ rfl
    exact (kA.trans kB (fun b e => Or.inl ((he b).2 (Or.inr e)))).trans kC (fun b e => Or.inl ((he b).2 (Or.inl e)))
  · show (b = z ∨ b = g') ↔ (b = z ∨ some g' = some b)
    simp [eq_comm]
  · rw [List.length_append, nums_snoc]
    exact hown.kept (grownBy_setCell' w1 z _) (Or.inr (fun e => by have : g' = z := by simpa [Value.ownBlock] using e
                                                                   omega))
set_option maxRecDepth 100000 in
set_option maxHeartbeats 4000000 in
theorem appendSeq_any (lb : Array Value) (xs : List Int) (n0 : Nat) (w : World) (T : Nat → Prop) (hI : Itr Tryz.prog 264 lb xs n0 w T) (hn0 : n0 ≤ w.heap.size) (hT : ∀ b, T b → b < w.heap.size ∧ n0 ≤ b) (hx : xs.length ≤ 200000) :
    Calls Tryz.prog 267 #[.slice none 0 0, .func (.func 264) #[] lb] w fun e w' => ∃ v, e = .returned v ∧ w'.ownsRow w.heap.size 3 1 v xs.length (nums xs) ∧ Below n0 w w' := by
  obtain ⟨i0, hi, hz0, hz1, hz2⟩ := info_parts info_per_int
  refine (callsIn_wide (n := 3)).1 ?_
  refine callsIn_of_wp_marks Tryz.func267 rfl trivial ?_ rfl
  simp only [Tryz.ntmps267, List.size_toArray, List.length_cons, List.length_nil, Nat.reduceAdd, Nat.reduceSub, Array.replicate_succ, Array.replicate_zero, List.push_toArray, List.append_toArray, List.nil_append, List.cons_append]
  obtain ⟨W, hW⟩ : ∃ W, W = w.alloc (.cells #[.slice none 0 0] 34) := ⟨_, rfl⟩
  have hB : Below w.heap.size w W := by rw [hW]; exact (Below.refl _ _).alloc (Nat.le_refl _) _
  have hz : W.heap.size = w.heap.size + 1 := by rw [hW]; simp
  have b2 : Boxed W w.heap.size 34 (.slice none 0 0) := by rw [hW]; exact Boxed.new _ _ _
  gi_wp2_with fail
  rw [← hW]
  clear hW
  have FI : Frm n0 (CoI w.heap.size (w.heap.size + 1) 200000) := CoI.frm (by omega) (by omega)
  refine rf_law2 (gf := 264) (lb := lb) rfl (enters_of Tryz.func264 (by kernel_rfl) rfl) hI (hB.mono hn0) hn0 stC
    (CoI w.heap.size (w.heap.size + 1) 200000) (fun _ _ _ _ => False)
    FI (fun c => ⟨fun y S X h => h.elim, fun y S X X' h q p => h.elim⟩) [] (fun b => b = w.heap.size) ⟨Nat.zero_le _, .slice none 0 0, fun b => by simp [Value.ownBlock], b2, World.ownsRow_nil _ _ _ _⟩ ?hT rfl ?a1 ?assign ?body ?done ?stop
  case hT =>
    intro b hb
    obtain ⟨t1, t2⟩ := hT b hb
    exact ⟨t1, t2, by omega, hB.block b t1⟩
  case assign =>
    intro l' d X K hK
    gi_wp2
    exact hK
  case body =>
    clear b2 hI hT hB
    rintro l' l S d X ⟨hlen, v, he, c2, c3⟩ hnX ⟨ns, hE⟩
    have ll : l.length + 1 ≤ 200000 := by
      rw [run_coll, run_coll] at hE
      have e := congrArg (fun z => z.1.length) hE
      simp at e
      omega
    have HV := Lib.hid he
    have HC2 := Lib.hid c2
    have HO := Lib.hid c3
    have zX : w.heap.size + 1 ≤ X.heap.size := by have := c2.lt; omega
    have k2 := c2.cell
    clear he c2 c3 hE
    gi_wp2_with (gi_at_builtin; refine append_at _ rfl _ _ 34 rfl (w.heap.size + 1) 3 i0 (.int .i64 0) 1 8 Tryz.underlying34 hi hz0 hz1 hz2 rfl (by decide) _ _ _ rfl (HO.out.alloc _) ⟨X.heap.size, 0, none⟩ 1 1 [.int .i64 d] rfl rfl (cell_one_new _ _ _) (by simp [Value.oneCell']) (by unfold maxLen; omega) (by omega) (by simp; omega) ?_; intro v' w1 hown' hgrow hat; obtain ⟨g', cap', rfl⟩ := ownsRow_succ hown'; have M1 := Lib.hid (co_step 200000 w.heap.size l d S X w1 v g' cap' HV.out HC2.out HO.out ll hown' hgrow hat); have hc1 := M1.out.1.cell; have hf1 := M1.out.1.frozen; clear hown' hgrow hat k2)
    obtain ⟨S', u1, u2, u3⟩ := M1.out.2
    exact ⟨_, S', rfl, u1, u2, u3⟩
  case done =>
    rintro D y S X hD hSD hrun ⟨_, v, he, c2, c3⟩ hg3 hk3 hDd
    have ZZ := Lib.hid (show (X.putObj D (.deferred none)).ownsRow w.heap.size 3 1 v xs.length (nums xs) ∧ Below n0 w (X.putObj D (.deferred none)) from by
      have kD : Kps (fun b => b = D) X (X.putObj D (.deferred none)) := Kps.put _ rfl
      have kW : Kps (fun b => (b = w.heap.size) ∨ T b) w X := (Kps.of_below hB).trans hk3 (Gr.refl _ _)
      have hBX : Below n0 w X := kW.below (fun b hb => hb.elim (fun z => by omega) (fun z => (hT b z).2)) hn0
      have hBD : Below n0 w (X.putObj D (.deferred none)) := hBX.trans (kD.below (fun b e => by omega) (Nat.le_trans hn0 hBX.size))
      have q := ownsRow_putObj c3 (.deferred none) hDd rfl
      rw [run_coll] at hrun
      have r' : y = xs := by have := congrArg Prod.fst hrun; simpa using this.symm
      rw [r'] at q
      refine ⟨⟨q.1, q.2.imp id (fun ⟨g, cap, cur, h1, h2, h3⟩ => ⟨g, cap, cur, h1, by omega, h3⟩)⟩, hBD⟩)
    have k2 := c2.cell
    clear hrun he hg3 hk3 b2 hI
    obtain ⟨av, cv, rfl⟩ : ∃ a c, v = .slice a y.length c := by
      rcases c3.2 with ⟨q, q0⟩ | ⟨g, cap, _, q, _⟩
      · exact ⟨none, 0, by rw [q, q0]⟩
      · exact ⟨_, _, q⟩
    clear c3 c2
    gi_wp2
    refine ⟨by simp, .inl ⟨_, _, rfl, run_takeDeferred hDd, ?_⟩⟩
    exact ⟨.slice av y.length cv, by simp [results, Tryz.results267, go_sem], _, rfl, ZZ.out⟩
  case stop =>
    rintro D c y S X hD hSD hrun h
    exact h.elim
theorem collect_any (lb : Array Value) (xs : List Int) (n0 : Nat) (w : World) (T : Nat → Prop) (hI : Itr Tryz.prog 264 lb xs n0 w T) (hn0 : n0 ≤ w.heap.size) (hT : ∀ b, T b → b < w.heap.size ∧ n0 ≤ b) (hx : xs.length ≤ 200000) :
    Calls Tryz.prog 255 #[.func (.func 264) #[] lb] w fun e w' => ∃ v, e = .returned v ∧ w'.ownsRow w.heap.size 3 1 v xs.length (nums xs) ∧ Below n0 w w' := by
  have K := Lib.hid (appendSeq_any lb xs n0 w T hI hn0 hT hx)
  clear hI hT hx hn0
  go_enter Tryz.func255, Tryz.ntmps255
  go_wp2_with fail
  refine K.out.mono ?_
  rintro e w1 ⟨v, rfl, ho, hb⟩
  have HO := Lib.hid ho
  have HB := Lib.hid hb
  clear ho hb K
  go_wp2
  go_ret
  exact ⟨v, rfl, HO.out, HB.out⟩
theorem rise_len2 : ∀ (l : List Int) (a b : Int), l.Pairwise (· < ·) → (∀ x ∈ l, a ≤ x ∧ x ≤ b) → (l.length : Int) ≤ max 0 (b - a + 1)
  | [], a, b, _, _ => by simp; omega
  | x :: l, a, b, hp, hm => by
    obtain ⟨h1, h2⟩ := List.pairwise_cons.1 hp
    have k := rise_len2 l (x + 1) b h2 (fun y hy => ⟨by have := h1 y hy; omega, (hm y (List.mem_cons_of_mem _ hy)).2⟩)
    have := hm x (by simp)
    rw [List.length_cons]
    push_cast
    omega
theorem btL_len {r : Rl} {s : Int} (h : sf r s = 0) (fr t : Int) : (btL r s fr t).length ≤ 200000 := by
  rw [btL_eq h]
  obtain ⟨_, s1, s2⟩ := sf_ok h
  have k := rise_len2 (DAYS r s) s 109573 (DAYS_rise r s) (fun x hx => ⟨(DAYS_in h hx).1, (DAYS_in h hx).2.1⟩)
  have := List.length_filter_le (fun x => decide (fr ≤ x ∧ x ≤ t)) (DAYS r s)
  omega
set_option maxRecDepth 100000 in
set_option maxHeartbeats 4000000 in
theorem seqAll_any (r : Rl) (v : Value) (s fr t : Int) (w : World) (hv : RuleIn w v r) (hT : Tab w) (h0 : sf r s = 0) (hfr : fr ≤ 9223372036854775807) :
    Calls Tryz.prog 248 #[v, .int .i64 s, .int .i64 fr, .int .i64 t] w fun e w' => ∃ u, e = .returned (.tuple #[u, .nilIface]) ∧ w'.ownsRow w.heap.size 3 1 u (btL r s fr t).length (nums (btL r s fr t)) ∧ Below w.heap.size w w' := by
  obtain ⟨am, ad, aw, ap, cm, cd, cw, cp, rfl⟩ := hv.form
  have hB : Below w.heap.size w (w.alloc (.cells #[.int .i64 r.freq, .int .i64 r.every, .int .i64 r.count, .int .i64 r.till, .slice am r.months.length cm, .slice ad r.days.length cd, .slice aw r.weeks.length cw, .slice ap r.pick.length cp] 37)) := (Below.refl _ _).alloc (Nat.le_refl _) _
  have KB := Lib.hid (between_any r _ s fr t (w.alloc (.cells #[.int .i64 r.freq, .int .i64 r.every, .int .i64 r.count, .int .i64 r.till, .slice am r.months.length cm, .slice ad r.days.length cd, .slice aw r.weeks.length cw, .slice ap r.pick.length cp] 37)) (hv.on hB) (hT.below hB) (Or.inr hfr))
  have HB := Lib.hid hB
  have H0 := Lib.hid h0
  have HL := Lib.hid (btL_len h0 fr t)
  clear hv hT hB hfr h0
  go_enter Tryz.func248, Tryz.ntmps248
  go_wp2_with fail
  generalize w.alloc (.cells #[.int .i64 r.freq, .int .i64 r.every, .int .i64 r.count, .int .i64 r.till, .slice am r.months.length cm, .slice ad r.days.length cd, .slice aw r.weeks.length cw, .slice ap r.pick.length cp] 37) = W at HB KB ⊢
  refine KB.out.mono ?_
  rintro e w1 ⟨hb, hc⟩
  clear KB
  rcases hc with ⟨k1, _⟩ | ⟨_, k2, lb, rfl, hI⟩
  · exact absurd H0.out k1
  have KC := Lib.hid (collect_any lb _ _ w1 _ hI (by omega) (fun b q => ⟨by omega, q.1⟩) HL.out)
  have B1 := Lib.hid (HB.out.trans (hb.mono HB.out.size))
  have sz := Lib.hid HB.out.size
  have s1 := Lib.hid B1.out.size
  clear hI hb k2 HB
  go_wp2_with fail
  refine KC.out.mono ?_
  rintro e w2 ⟨u, rfl, ho, hb⟩
  have HO : Hid (w2.ownsRow w.heap.size 3 1 u (btL r s fr t).length (nums (btL r s fr t))) := Lib.hid ⟨ho.1, ho.2.imp id (fun ⟨g, cap, cur, h1, h2, h3⟩ => ⟨g, cap, cur, h1, Nat.le_trans s1.out h2, h3⟩)⟩
  have B2 := Lib.hid (B1.out.trans (hb.mono sz.out))
  clear ho hb KC B1
  go_wp2
  go_ret2
  exact ⟨u, rfl, HO.out, B2.out⟩
end Go.Proofs.YthdohcjingfpoaaGreatDoor
namespace Go.Proofs.YthdohcjingfpoaaGreatDoor
open Go.RowKit Cal Txt

/-- The day of a time; of what is none it is 0. -/
def dyo (t : Int) : Int := if ist t = true then t / 1440 + 1 else 0
theorem dayOf_any (t : Int) (w : World) :
    Calls Tryz.prog 247 #[.int .i64 t] w fun e w' => e = .returned (.int .i64 (dyo t)) ∧ w' = w := by
  by_cases h : 1 ≤ t ∧ t ≤ 157785119
  · have N : Hid (dyo t = t / 1440 + 1) := Lib.hid (if_pos (ist_yes h.1 h.2))
    go_enter Tryz.func247, Tryz.ntmps247
    go_wp2_with (go_at_call 61; refine (split_yes _ _ h.1 h.2).mono ?_; rintro e w' ⟨rfl, rfl⟩)
    go_ret
    exact ⟨ret_int N.out.symm, rfl⟩
  · have N : Hid (dyo t = 0) := Lib.hid (if_neg (by rw [ist_no h]; decide))
    go_enter Tryz.func247, Tryz.ntmps247
    go_wp2_with (go_at_call 61; refine (split_no _ _ h).mono ?_; rintro e w' ⟨rfl, rfl⟩)
    go_ret
    exact ⟨ret_int N.out.symm, rfl⟩
theorem own_set {w : World} {n0 g cap n : Nat} {xs : List Value} (h : w.ownsRow n0 3 1 (.slice (some ⟨g, 0, none⟩) n cap) n xs) (i : Nat) (x : Value) :
    (w.setCell ⟨g, i, none⟩ x).ownsRow n0 3 1 (.slice (some ⟨g, 0, none⟩) n cap) n (xs.set i x) := by
  obtain ⟨h1, h2⟩ := h
  refine ⟨by rw [List.length_set]; exact h1, ?_⟩
  rcases h2 with ⟨q, _⟩ | ⟨g', cap', cur, q, hb, hg, hc, hm, hs, ht⟩
  · cases q
  · obtain ⟨rfl, rfl⟩ : g = g' ∧ cap = cap' := by simpa using q
    refine Or.inr ⟨g, cap, cur.setIfInBounds i x, rfl, hb, ?_, hc, hm, by simpa using hs, ?_⟩
    · rw [Sort.setCell_eq]
      simp only [Sort.mapBlock, Array.getElem?_modify, if_true, hg]
      rfl
    · rw [Array.toList_setIfInBounds, List.take_set, ht]
/-- The time of a day. -/
def tmd (st n : Int) : Int := st + (n - dyo st) * 1440
/-- How far the list has been turned. -/
def trn (st : Int) (k : Nat) (l : List Int) : List Int := (l.take k).map (tmd st) ++ l.drop k
theorem trn_zero (st : Int) (l : List Int) : trn st 0 l = l := by simp [trn]
theorem trn_end (st : Int) (l : List Int) : trn st l.length l = l.map (tmd st) := by simp [trn]
theorem trn_len (st : Int) (k : Nat) (l : List Int) (h : k ≤ l.length) : (trn st k l).length = l.length := by simp [trn]; omega
theorem trn_at (st : Int) (k : Nat) (l : List Int) (h : k < l.length) : (trn st k l).getD k 0 = l.getD k 0 := by
  unfold trn
  rw [List.getD_eq_getElem?_getD, List.getElem?_append_right (by simp; omega), List.getElem?_drop, List.getD_eq_getElem?_getD]
  congr 2
  simp; omega
theorem trn_set (st : Int) (k : Nat) (l : List Int) (h : k < l.length) : nums (trn st (k + 1) l) = (nums (trn st k l)).set k (.int .i64 (tmd st (l.getD k 0))) := by
  unfold nums trn
  rw [← List.map_set]
  congr 1
  rw [List.take_succ_eq_append_getElem h, List.map_append, List.set_append_right _ _ (by simp; omega), List.getD_eq_getElem?_getD, List.getElem?_eq_getElem h, List.drop_eq_getElem_cons h]
  simp [Nat.min_eq_left (Nat.le_of_lt h)]
  rw [List.drop_eq_getElem_cons h, List.set_cons_zero]
theorem dyo_in (t : Int) : 0 ≤ dyo t ∧ dyo t ≤ 109573 := by
  unfold dyo ist
  split
  · rename_i h
    have := of_decide_eq_true h
    omega
  · omega
theorem dyo_ok {t : Int} (h : ist t = true) : dyo t = t / 1440 + 1 ∧ 1 ≤ dyo t ∧ dyo t ≤ 109573 := by
  have e : dyo t = t / 1440 + 1 := if_pos h
  have := of_decide_eq_true h
  rw [e]
  exact ⟨rfl, by omega, by omega⟩
theorem sf_ev {r : Rl} {t : Int} (h0 : rf r = 0) (h : ist t = true) : sf r (dyo t) = 0 := by
  unfold sf
  rw [if_pos h0, if_pos (dyo_ok h).2]
/-- The days that are asked for. -/
def dyL (e : Evt) (fr t : Int) : List Int := btL e.rule (dyo e.start) (dyo fr) (dyo t)
theorem dyL_in {e : Evt} {fr t x : Int} (h0 : rf e.rule = 0) (h : ist e.start = true) (hx : x ∈ dyL e fr t) : 1 ≤ x ∧ x ≤ 109573 := by
  unfold dyL at hx
  rw [btL_eq (sf_ev h0 h)] at hx
  have := DAYS_in (sf_ev h0 h) (List.mem_filter.1 hx).1
  have := (dyo_ok h).2
  omega
set_option maxRecDepth 100000 in
set_option maxHeartbeats 4000000 in
theorem ofStart_rep (e : Evt) (s : Evs) (fr t : Int) (w : World) (hv : EvB w e s) (hT : Tab w) (hr : e.rep = true) (h0 : rf e.rule = 0) (hs : ist e.start = true) :
    Calls Tryz.prog 227 #[.agg (ecells e s), .int .i64 fr, .int .i64 t] w (OfA w.heap.size w ((dyL e fr t).map (tmd e.start))) := by
  obtain ⟨RES, hRES⟩ : ∃ RES, RES = (dyL e fr t).map (tmd e.start) := ⟨_, rfl⟩
  rw [← hRES]
  have HRES := Lib.hid hRES
  clear hRES
  have B0 := (Below.refl w.heap.size w).alloc (Nat.le_refl _) (.cells (ecells e s) 40)
  have R0 := EBox.new w e s 40
  have HI := Lib.hid (fun x (q : x ∈ dyL e fr t) => dyL_in h0 hs q)
  have HL : Hid ((dyL e fr t).length ≤ 200000) := Lib.hid (btL_len (sf_ev h0 hs) _ _)
  have KA := Lib.hid (fun X (q : Below w.heap.size w X) => seqAll_any e.rule (rval e s) (dyo e.start) (dyo fr) (dyo t) X ((hv.on q).rule) (hT.below q) (sf_ev h0 hs) (by have := (dyo_in fr).2; omega))
  have ET : Hid (∀ n, tmd e.start n = e.start + (n - dyo e.start) * 1440) := Lib.hid (fun _ => rfl)
  have hst := of_decide_eq_true hs
  have hdy := (dyo_ok hs).2
  have HB0 := Lib.hid B0
  have HR0 := Lib.hid R0
  clear hv hT h0 hs B0 R0
  have sz0 : (w.alloc (.cells (ecells e s) 40)).heap.size = w.heap.size + 1 := World.size_alloc _ _
  have ca4 := HR0.out.1.2.2.2.2
  have ca2 := HR0.out.1.2.2.1
  rw [hr] at ca4
  obtain ⟨W0, hW⟩ : ∃ W0, W0 = w.alloc (.cells (ecells e s) 40) := ⟨_, rfl⟩
  rw [← hW] at HB0 HR0 sz0 ca4 ca2
  have HW := Lib.hid hW
  clear hW
  go_enter Tryz.func227, Tryz.ntmps227
  go_upto_region 1 with fail
  rw [← HW.out]
  clear HW
  go_wp2_with (go_at_call 247; refine (dayOf_any _ _).mono ?_; rintro x w' ⟨rfl, hw⟩; replace hw := hw.symm; subst hw)
  have HS : Hid (∀ X, Below W0.heap.size W0 X → X.cell? ⟨w.heap.size, 5, none⟩ = some (.int .i64 e.rule.freq) ∧ X.cell? ⟨w.heap.size, 6, none⟩ = some (.int .i64 e.rule.every) ∧ X.cell? ⟨w.heap.size, 7, none⟩ = some (.int .i64 e.rule.count) ∧ X.cell? ⟨w.heap.size, 8, none⟩ = some (.int .i64 e.rule.till) ∧ X.cell? ⟨w.heap.size, 9, none⟩ = some s.vm ∧ X.cell? ⟨w.heap.size, 10, none⟩ = some s.vd ∧ X.cell? ⟨w.heap.size, 11, none⟩ = some s.vw ∧ X.cell? ⟨w.heap.size, 12, none⟩ = some s.vp) := Lib.hid (fun X q => (HR0.out.on q).2.1)
  have KB := Lib.hid (fun X (q : Below W0.heap.size W0 X) => KA.out X (HB0.out.trans (q.mono HB0.out.size)))
  clear KA ca4
  go_region_held3 (fun X => X.cell? ⟨w.heap.size, 5, none⟩ = some (.int .i64 e.rule.freq) ∧ X.cell? ⟨w.heap.size, 6, none⟩ = some (.int .i64 e.rule.every) ∧ X.cell? ⟨w.heap.size, 7, none⟩ = some (.int .i64 e.rule.count) ∧ X.cell? ⟨w.heap.size, 8, none⟩ = some (.int .i64 e.rule.till) ∧ X.cell? ⟨w.heap.size, 9, none⟩ = some s.vm ∧ X.cell? ⟨w.heap.size, 10, none⟩ = some s.vd ∧ X.cell? ⟨w.heap.size, 11, none⟩ = some s.vw ∧ X.cell? ⟨w.heap.size, 12, none⟩ = some s.vp)
    (first | exact HS.out _ (Below.refl _ _).drew | exact HS.out _ (Below.trans (Below.drew (Below.refl _ W0)) hb3)) (first
    | (go_at_call 247; refine (dayOf_any _ _).mono ?_; rintro x w2 ⟨rfl, rfl⟩)
    | (go_at_call 248; refine (KB.out _ (Below.refl _ W0).drew).mono ?_; rintro x w3 ⟨u, rfl, ho3, hb3⟩))
  have h4 : Below W0.heap.size W0 w3 := Below.trans (Below.drew (Below.refl _ W0)) hb3
  have B3 := Lib.hid (HB0.out.trans (h4.mono HB0.out.size))
  have R3 := Lib.hid (HR0.out.on h4)
  have O3 : Hid (w3.ownsRow (w.heap.size + 1) 3 1 u (dyL e fr t).length (nums (dyL e fr t))) := Lib.hid (by rw [← sz0]; exact ho3)
  clear ho3 hb3 h4 HS KB HB0 HR0 ca2 sz0
  generalize dyL e fr t = ds at O3 HI HL HRES
  rcases own_hol O3.out with ⟨eu, hnil⟩ | ⟨g, cap, eu, hg, hcap, hmax, _⟩
  · subst eu
    have HN := Lib.hid hnil
    clear O3 hnil HI HL
    go_wp2_with fail
    go_loop [38] (fun i => i = .int .i64 0) (fun _ => 0)
    case atStart => rfl
    case round =>
      subst hrel
      go_wp2
      go_ret2
      exact ⟨.slice none 0 0, rfl, by rw [HRES.out, HN.out]; exact World.ownsRow_nil _ _ _ _, B3.out⟩
  · subst eu
    have dl : ds.length ≤ 200000 := HL.out
    have HG := Lib.hid hg
    obtain ⟨st, hst'⟩ : ∃ st, st = e.start := ⟨_, rfl⟩
    obtain ⟨f0, hf0⟩ : ∃ f0, f0 = dyo e.start := ⟨_, rfl⟩
    have c2 := Lib.hid (fun X (q : Below (w.heap.size + 1) w3 X) => (q.cell (p := ⟨w.heap.size, 2, none⟩) (by show w.heap.size < _; omega)).trans R3.out.1.2.2.1)
    rw [← hf0] at hdy ET
    rw [← hst'] at hst ET c2 HRES
    rw [← hf0, ← hst']
    have HST := Lib.hid hst'
    have sw := R3.out.lt
    clear hst' hf0 hg HL R3 hcap hmax hr
    go_wp2_with fail
    go_loopw [38] (fun i wr => ∃ k : Nat, k ≤ ds.length ∧ i = .int .i64 k ∧ wr.ownsRow (w.heap.size + 1) 3 1 (.slice (some ⟨g, 0, none⟩) ds.length cap) ds.length (nums (trn st k ds)) ∧ Below (w.heap.size + 1) w3 wr) (fun i _ => ds.length - (intOf i).toNat)
    case atStart => exact ⟨0, Nat.zero_le _, rfl, by rw [trn_zero]; exact O3.out, Below.refl _ _⟩
    case round =>
      obtain ⟨k, hk, rfl, hO, hB⟩ := hrel
      have HO := Lib.hid hO
      have HB := Lib.hid hB
      have c2' := c2.out _ hB
      clear hO hB O3
      by_cases hlt : k < ds.length
      · have hz : (trn st k ds).length = ds.length := trn_len st k ds hk
        have ck : wr.cell? ⟨g, k, none⟩ = some (.int .i64 (ds.getD k 0)) ∧ wr.frozen? ⟨g, k, none⟩ = false := by
          have hO2 := HO.out
          rw [← hz] at hO2
          rcases own_hol hO2 with ⟨q, _⟩ | ⟨g', cap', q, _, _, _, hh⟩
          · cases q
          · obtain ⟨rfl, _⟩ : g = g' ∧ cap = cap' := by simpa using q
            have := hh k (by omega)
            rwa [trn_at st k ds hlt, Nat.zero_add] at this
        obtain ⟨ck, fk⟩ := ck
        have hin := HI.out (ds.getD k 0) (by rw [List.getD_eq_getElem?_getD, List.getElem?_eq_getElem hlt]; exact List.getElem_mem hlt)
        have NS := Lib.hid (own_set HO.out k (.int .i64 (tmd st (ds.getD k 0))))
        rw [← trn_set st k ds hlt, ET.out] at NS
        generalize ds.getD k 0 = x at ck hin NS
        have NB := Lib.hid (HB.out.trans ((Below.refl (w.heap.size + 1) wr).setCell (p := ⟨g, k, none⟩) HG.out (.int .i64 (st + (x - f0) * 1440))))
        obtain ⟨x1, x2⟩ := hin
        obtain ⟨s1, s2⟩ := hst
        obtain ⟨d1, d2⟩ := hdy
        clear hz HO HB
        go_wp2
        go_roundw
        case rel => exact ⟨k + 1, by omega, by go_num, NS.out, NB.out⟩
        case measure => simp [intOf]; omega
      · obtain rfl : k = ds.length := by omega
        have ZZ := Lib.hid (show OfA w.heap.size w RES (.returned (.tuple #[.slice (some ⟨g, 0, none⟩) ds.length cap, .nilIface])) wr from ⟨_, rfl, by
          have := HO.out
          rw [trn_end] at this
          rw [HRES.out, List.length_map]
          exact ⟨this.1, this.2.imp id (fun ⟨g, cap, cur, h1, h2, h3⟩ => ⟨g, cap, cur, h1, by omega, h3⟩)⟩, B3.out.trans (HB.out.mono (by omega))⟩)
        clear HO HB
        go_wp2
        go_ret2
        exact ZZ.out
end Go.Proofs.YthdohcjingfpoaaGreatDoor
