/-
  What is proved here: plain facts on the whole lines of a text, as they are handed out (no program).
  What is proved here: what package card's wholeLines hands out (a contract over the translation).
-/
import Derived.Test.YtpplfcfhjpfckaaGreatDoorQO
import Derived.Test.YtpplfcfhjpfckaaGreatDoorRD
import Derived.Maps.AppendAt
import Derived.RangeFuncCalls
import Derived.RangeFuncLeaves
import Derived.Shelf.Abstract
import Derived.Shelf.RegionOpen
import Derived.WalkKit
import Derived.OwnWalkIn
import Derived.TacticsInMore
import Derived.LoopNIn
import Derived.LoopIn
namespace Go.Proofs.YtpplfcfhjpfckaaGreatDoor
open Cal Txt Ln Cb

/-- What is told of the pieces of a line. -/
def wlP (g : List (List UInt8)) : ByteArray × Int := if fold (unf g) = g then (tb (unf g), 0) else (⟨#[]⟩, 2)
def wls (l : List UInt8) : List (ByteArray × Int) := (grp [] (lns l)).map wlP
theorem wlP_un (xs : List ByteArray) : wlP (pcl xs) = (unV xs, unF xs) := by
  unfold wlP unV unF unB
  by_cases h : fold (unf (pcl xs)) = pcl xs
  · rw [if_pos h, decide_eq_true h]; rfl
  · rw [if_neg h, decide_eq_false h]; rfl
abbrev en3 (p : ByteArray × Int) : Array Value := #[.string p.1, fault p.2]
theorem cut_piece (x : ByteArray) (h : ¬ x.size = 0) : lns x.data.toList = (ctA 10 x).data.toList :: lns (ctB 10 x).data.toList := by
  have hn : x.data.toList ≠ [] := fun z => h (by show x.data.toList.length = 0; rw [z]; rfl)
  rw [lns_cons hn]
  by_cases k : at1 10 x.data.toList < x.size
  · rw [ctA_list k, ctB_list k]
  · have e1 : ctA 10 x = x := if_neg k
    have e2 : ctB 10 x = ⟨#[]⟩ := if_neg k
    have l : x.data.toList.length = x.size := rfl
    rw [e1, e2, List.take_of_length_le (by omega), List.drop_of_length_le (by omega)]
theorem cut_size (x : ByteArray) (h : ¬ x.size = 0) : (ctB 10 x).size < x.size ∧ (ctA 10 x).size + 1 + (ctB 10 x).size ≤ x.size + 1 ∧ (¬ (ctB 10 x).size = 0 → (ctA 10 x).size + 1 + (ctB 10 x).size ≤ x.size) := by
  have l : x.data.toList.length = x.size := rfl
  by_cases k : at1 10 x.data.toList < x.size
  · have a : (ctA 10 x).data.toList.length = (ctA 10 x).size := rfl
    have b : (ctB 10 x).data.toList.length = (ctB 10 x).size := rfl
    rw [ctA_list k, List.length_take] at a
    rw [ctB_list k, List.length_drop] at b
    omega
  · have e1 : ctA 10 x = x := if_neg k
    have e2 : ctB 10 x = ⟨#[]⟩ := if_neg k
    have z : (⟨#[]⟩ : ByteArray).size = 0 := rfl
    rw [e1, e2]
    omega
theorem pre_bl (x : ByteArray) : Go.Lib.hasPrefix x.data.toList [32] = bl x.data.toList := by
  unfold bl
  cases x.data.toList with
  | nil => rfl
  | cons a r =>
    unfold Go.Lib.hasPrefix
    rw [List.isPrefixOf]
    by_cases h : a = 32
    · subst h; rfl
    · have h1 : ((32 : UInt8) == a) = false := by simpa using fun z => h z.symm
      have h2 : (some a == some (32 : UInt8)) = false := by simpa using h
      rw [h1, List.head?_cons, h2]; rfl
theorem pcl_snoc (a : List ByteArray) (p : ByteArray) : pcl (a ++ [p]) = pcl a ++ [p.data.toList] := by simp [pcl]
theorem tot_snoc (a : List (List UInt8)) (p : List UInt8) : tot (a ++ [p]) = tot a + p.length := by simp [tot]
theorem pcl_nil {a : List ByteArray} : pcl a = [] ↔ a = [] := by simp [pcl]
end Go.Proofs.YtpplfcfhjpfckaaGreatDoor
namespace Go.Proofs.YtpplfcfhjpfckaaGreatDoor
open Go.RowKit Go.Shelf Cal Txt Ln Cb
attribute [local go_sem] Oper.semAt_some

/-- An append inside a fence, and where the row then lies. -/
theorem app_in {F : Fence} {n : Nat} {P : Program} (w : World) {ops : Array Oper} {rest : List Oper} {o : Oper} {a : Act} {Q : Exit → Act → World → Prop}
    (hg : o.guard = none) (s x : Operand) (t : TypeId) (hop : o.op = Op.call { callee := Callee.builtin Builtin.append, args := #[s, x], argTypes := #[t, t] })
    (base : Nat) (e : TypeId) (i : TypeInfo) (z : Value) (size bytes : Nat) (h1 : P.underlying t = some (.slice e)) (h2 : P.info? e = some i) (h3 : i.zero = some z) (h4 : i.size = size) (h5 : i.bytes = bytes) (h6 : z.cells.size = size) (h7 : 0 < size)
    (v : Value) (k : Nat) (xs : List Value) (hs : a.eval s = v) (hown : w.ownsRow base e size v k xs) (ad : Addr) (m c : Nat) (news : List Value) (hx : a.eval x = .slice (some ad) m c) (hn : news.length = m * size)
    (hc : ∀ j u, news[j]? = some u → w.cell? (ad.add j) = some u) (h1c : ∀ u ∈ news, u.oneCell' = true) (b1 : k + m ≤ maxLen) (b2 : (k + m) * bytes ≤ 140737488355328) (b3 : base ≤ w.heap.size)
    (hK : ∀ v' w', w'.ownsRow base e size v' (k + m) (xs ++ news) → w.grownBy w' v.ownBlock → (v'.ownBlock = v.ownBlock ∨ v'.ownBlock = some w.heap.size) → wpListIn F n P ops Q rest (a.put o.dst v') w') :
    wpListIn F n P ops Q (o :: rest) a w := by
  refine wpListIn_plain hg fun K hK' => ?_
  obtain ⟨v', w', hrun, r1, r2, _, r3⟩ := run_append_own_at (P := P) w base t o.type e i z size bytes h1 h2 h3 h4 h5 h6 h7 v k xs hown ad m c news hn hc h1c b1 b2 b3
  unfold Oper.wpIn
  refine ⟨?_, ?_⟩
  · simp [Oper.about, hop, resolve, Target.leads, Sem.run_pure]
  · rw [Oper.semAt_plain F _ _ (by rw [hop]; intro c hc'; cases hc')]
    simp [execOp, hop, resolve, invoke, builtin, hs, hx, hrun, Result.andThen]
    exact hK' _ _ (hK v' w' r1 r2 r3)
/-- How far the lines are handed out: a: the pieces of the line at hand; x: what is left of the text. -/
structure Whi {σ : Type} (s : ByteArray) (f : σ → ByteArray × Int → σ × Bool) (x0 : σ) (J : σ → (Nat → Prop) → World → Prop) (S : Nat → Prop) (W : World) (v : Value) (a : List ByteArray) (x : ByteArray) (y : σ) (S' : Nat → Prop) (wr : World) : Prop where
  own : wr.ownsRow W.heap.size 9 1 v a.length (strs a)
  len : tot (pcl a) + a.length + x.size ≤ s.size + 1
  len2 : ¬ x.size = 0 → tot (pcl a) + a.length + x.size ≤ s.size
  hj : J y S' wr
  off : ∀ g, v.ownBlock = some g → ¬ S' g
  run : Sg.run f x0 (wls s.data.toList) = Sg.run f y ((grp (pcl a) (lns x.data.toList)).map wlP)
  gr : Gr S W S'
  kps : Kps S W wr
theorem Whi.on {σ : Type} {s : ByteArray} {f : σ → ByteArray × Int → σ × Bool} {x0 : σ} {J : σ → (Nat → Prop) → World → Prop} {S : Nat → Prop} {W : World} {v : Value} {a : List ByteArray} {x : ByteArray} {y : σ} {S' : Nat → Prop} {wr X : World} {n0 : Nat} (FJ : Frm n0 J) (hn : n0 ≤ wr.heap.size) (h : Whi s f x0 J S W v a x y S' wr) (q : Below wr.heap.size wr X) : Whi s f x0 J S W v a x y S' X :=
  ⟨own_below h.own q, h.len, h.len2, FJ.on _ _ _ _ h.hj (q.mono hn) (fun b hb => q.block b (FJ.lt _ _ _ h.hj b hb).2), h.off, h.run, h.gr, h.kps.trans (Kps.of_below (S := fun _ => False) q) (fun _ e => e.elim)⟩
theorem slice3 {W : World} {B k n : Nat} {t : TypeId} {v : Value} {xs : List Value} (h : W.ownsRow B t k v n xs) : ∃ a m c, v = .slice a m c := by
  obtain ⟨a, c, q⟩ := slice_form h
  exact ⟨a, _, c, q⟩
theorem Whi.app {σ : Type} {s : ByteArray} {f : σ → ByteArray × Int → σ × Bool} {x0 : σ} {J : σ → (Nat → Prop) → World → Prop} {S : Nat → Prop} {W : World} {v v' : Value} {a : List ByteArray} {p q : ByteArray} {y : σ} {S' : Nat → Prop} {wx w4 : World} {o : Obj} {n0 : Nat} (FJ : Frm n0 J) (hn : n0 ≤ W.heap.size)
    (own : wx.ownsRow W.heap.size 9 1 v a.length (strs a)) (hj : J y S' wx) (off : ∀ g, v.ownBlock = some g → ¬ S' g) (gr : Gr S W S') (kps : Kps S W wx) (run : Sg.run f x0 (wls s.data.toList) = Sg.run f y ((grp (pcl (a ++ [p])) (lns q.data.toList)).map wlP))
    (len : tot (pcl (a ++ [p])) + (a ++ [p]).length + q.size ≤ s.size + 1) (len2 : ¬ q.size = 0 → tot (pcl (a ++ [p])) + (a ++ [p]).length + q.size ≤ s.size)
    (hown' : w4.ownsRow W.heap.size 9 1 v' (a.length + 1) (strs a ++ [.string p])) (hgrow : (wx.alloc o).grownBy w4 v.ownBlock) (hat : v'.ownBlock = v.ownBlock ∨ v'.ownBlock = some (wx.alloc o).heap.size) : Whi s f x0 J S W v' (a ++ [p]) q y S' w4 := by
  have b0 : Below wx.heap.size wx (wx.alloc o) := (Below.refl _ _).alloc (Nat.le_refl _) _
  have ka : Kps (fun k => v.ownBlock = some k) wx w4 := (Kps.of_below b0).trans (grown_kps hgrow) (Gr.refl _ _)
  have sz : W.heap.size ≤ wx.heap.size := kps.size
  refine ⟨?_, len, len2, ?_, ?_, run, gr, ?_⟩
  · rw [List.length_append]
    unfold strs at hown' ⊢
    rw [List.map_append]
    exact hown'
  · exact FJ.on _ _ _ _ hj (ka.below (n0 := n0) (fun k hk => Nat.le_trans hn (own.lt k hk).1) (by omega)) (fun k hk => ka.block k (FJ.lt _ _ _ hj k hk).2 (fun z => off k z hk))
  · intro g hg z
    rcases hat with e | e
    · exact off g (e ▸ hg) z
    · rw [e] at hg
      have e1 := Option.some.inj hg
      have e2 := (FJ.lt _ _ _ hj g z).2
      simp at e1
      omega
  · refine ⟨ka.os.trans kps.os, ka.tape.trans kps.tape, ka.output.trans kps.output, Nat.le_trans kps.size ka.size, fun k hk hS => ?_⟩
    exact (ka.block k (by omega) (fun z => by have := (own.lt k z).1; omega)).trans (kps.block k hk hS)
set_option maxRecDepth 100000 in
set_option maxHeartbeats 4000000 in
theorem whole_itr (s : ByteArray) (hs : s.size ≤ 1048576) (n0 : Nat) (w0 : World) (tB : Nat) (ht : Boxed w0 tB 9 (.string s)) :
    Sg.Itr Tryz.prog en3 16 #[.pointer (some ⟨tB, 0, none⟩)] (wls s.data.toList) n0 w0 (fun b => b = tB) := by
  intro σ f J JX l x S W FJ FX hY hJ hB hn hT
  obtain ⟨i0, hi, hz0, hz1, hz2⟩ := info_parts info_str
  have tW : Boxed W tB 9 (.string s) := (hT tB rfl).2.2.2.trans ht
  have ct := tW.cell
  have hnW : n0 ≤ W.heap.size := Nat.le_trans hn hB.size
  have HY := Lib.hid hY
  have H0 : Whi s f x J S W (.slice none 0 0) [] s x S W := ⟨World.ownsRow_nil _ _ _ _, by simp [tot, pcl], fun _ => by simp [tot, pcl], hJ, fun g hg => (by cases hg), rfl, Gr.refl _ _, Kps.refl _ _⟩
  have HH := Lib.hid H0
  clear hY hT ht tW H0 hB hn
  refine (callsIn_wide (n := 3)).1 ?_
  refine callsIn_of_wp Tryz.func16 rfl trivial ?_ rfl
  simp only [Tryz.ntmps16, List.size_toArray, List.length_cons, List.length_nil, Nat.reduceAdd, Nat.reduceSub, Array.replicate_succ, Array.replicate_zero, List.push_toArray, List.append_toArray, List.nil_append, List.cons_append]
  gi_wp2
  clear ct
  gi_loopw [3, 4] (fun v t wr => ∃ (a : List ByteArray) (x' : ByteArray) (y : σ) (S' : Nat → Prop), t = .string x' ∧ Whi s f x J S W v a x' y S' wr) (fun _ t _ => sLen t)
  case atStart => exact ⟨[], s, x, S, rfl, HH.out⟩
  case round =>
    clear HH
    obtain ⟨a, x', y, S', rfl, hI⟩ := hrel
    have hnr : n0 ≤ wr.heap.size := Nat.le_trans hnW hI.kps.size
    obtain ⟨av, cv, rfl⟩ := slice_form hI.own
    have la : a.length ≤ 1048577 := by have := hI.len; omega
    have lt : tot (pcl a) ≤ 1048577 := by have := hI.len; omega
    have HI := Lib.hid hI
    clear hI
    by_cases h0 : x'.size = 0
    · have e0 : x' = ⟨#[]⟩ := ByteArray.ext (Array.eq_empty_of_size_eq_zero h0)
      subst e0
      have RN : Hid (Sg.run f x (wls s.data.toList) = Sg.run f y (if pcl a = [] then [] else [wlP (pcl a)])) := Lib.hid (by
        rw [HI.out.run]
        show Sg.run f y ((grp (pcl a) (lns [])).map wlP) = _
        rw [lns_nil]
        by_cases q : pcl a = []
        · rw [if_pos q, q, grp_nil0]; rfl
        · rw [if_neg q, grp_nil _ q]; rfl)
      by_cases ha : a = []
      · subst ha
        have ZZ := Lib.hid (show (∃ S', Gr S W S' ∧ Kps (fun k => S k ∨ k = tB) W wr ∧ Out J JX (Sg.run f x (wls s.data.toList)) S' wr) from ⟨S', HI.out.gr, HI.out.kps.mono (fun k q => Or.inl q), by rw [RN.out]; exact Or.inl ⟨rfl, HI.out.hj⟩⟩)
        clear RN HI
        gi_wp2
        refine bodyPost_end (results_none rfl _ _ _) rfl ?_
        exact ⟨⟨_, rfl⟩, ZZ.out⟩
      · have hp : 0 < a.length := List.length_pos_iff.2 ha
        have hpi : (0 : Int) < (a.length : Int) := by omega
        rw [if_neg (fun z => ha (pcl_nil.1 z))] at RN
        have KU := Lib.hid (unfold_any a (.slice av a.length cv) wr (own_txs HI.out.own) (by omega) (by omega))
        gi_wp2_with fail
        refine ⟨trivial, (callsIn_wide.2 KU.out).mono ?_⟩
        rintro y0 w1 ⟨rfl, hb⟩
        have I1 := HI.out.on FJ hnr hb
        obtain ⟨fn, tmps, assign, body, hy, hR⟩ := HY.out y S' w1 (wlP (pcl a)) (3 - 1) I1.hj ⟨[], RN.out⟩
        simp only [wlP_un, en3] at hy
        rcases hf : f y (wlP (pcl a)) with ⟨y2, b2⟩
        rw [hf] at hR
        have R2 : Hid (Sg.run f x (wls s.data.toList) = (y2, b2)) := Lib.hid (by
          rw [RN.out]
          cases b2
          · rw [Sg.run_no hf]
          · rw [Sg.run_yes hf, Sg.run_nil])
        have HI1 := Lib.hid I1
        clear hf I1 HI KU RN hb
        gi_wp2
        refine hR.mono ?_
        rintro y0 W3 ⟨rfl, S3, g3, k3, ho⟩
        have ZZ := Lib.hid (show (∃ S', Gr S W S' ∧ Kps (fun k => S k ∨ k = tB) W W3 ∧ Out J JX (Sg.run f x (wls s.data.toList)) S' W3) from ⟨S3, HI1.out.gr.trans g3 HI1.out.kps.size, (HI1.out.kps.trans k3 HI1.out.gr).mono (fun k q => Or.inl q), by rw [R2.out]; exact ho⟩)
        clear g3 k3 ho HI1 hy hR R2
        gi_wp2
        refine bodyPost_end (results_none rfl _ _ _) rfl ?_
        exact ⟨⟨_, rfl⟩, ZZ.out⟩
    · have CP := cut_piece x' h0
      obtain ⟨z1, z2, z3⟩ := cut_size x' h0
      have KC := Lib.hid (strcut_any x' 10 wr (by have := HI.out.len; omega))
      have hne : (x'.toList == []) = false := by
        rw [ByteArray.toList_eq]
        have : ¬ x'.data.toList = [] := ne_of_size h0
        simpa using this
      have L2 := HI.out.len2 h0
      have RN0 := HI.out.run
      rw [CP] at RN0
      generalize ctA 10 x' = p at KC CP z1 z2 z3 RN0
      generalize ctB 10 x' = q at KC CP z1 z2 z3 RN0
      generalize ctF 10 x' = cf at KC
      have HRN := Lib.hid RN0
      clear RN0 CP
      gi_wp2_with fail
      refine ⟨trivial, (callsIn_wide.2 KC.out).mono ?_⟩
      rintro y0 w1 ⟨rfl, hb⟩
      have I1 := Lib.hid (HI.out.on FJ hnr hb)
      have sz1 : wr.heap.size ≤ w1.heap.size := hb.size
      have szW : W.heap.size ≤ wr.heap.size := HI.out.kps.size
      have hn1 : n0 ≤ w1.heap.size := Nat.le_trans hnr sz1
      have ps : p.data.toList.length = p.size := rfl
      have TL : Hid (tot (pcl (a ++ [p])) + (a ++ [p]).length + q.size = tot (pcl a) + a.length + (p.size + 1 + q.size)) := Lib.hid (by
        rw [pcl_snoc, tot_snoc, List.length_append, ps]; simp; omega)
      have T1 : Hid (tot (pcl (a ++ [p])) + (a ++ [p]).length + q.size ≤ s.size + 1) := Lib.hid (by rw [TL.out]; omega)
      have T2 : Hid (¬ q.size = 0 → tot (pcl (a ++ [p])) + (a ++ [p]).length + q.size ≤ s.size) := Lib.hid (fun z => by have := z3 z; rw [TL.out]; omega)
      have U1 : Hid (tot (pcl ([] ++ [p])) + ([] ++ [p] : List ByteArray).length + q.size ≤ s.size + 1) := Lib.hid (by
        have : tot (pcl ([] ++ [p])) = p.size := by simp [pcl, tot]
        rw [this]; simp; omega)
      have U2 : Hid (¬ q.size = 0 → tot (pcl ([] ++ [p])) + ([] ++ [p] : List ByteArray).length + q.size ≤ s.size) := Lib.hid (fun z => by
        have : tot (pcl ([] ++ [p])) = p.size := by simp [pcl, tot]
        have := z3 z
        rw [show tot (pcl ([] ++ [p])) = p.size by simp [pcl, tot]]; simp; omega)
      clear hb HI KC L2
      by_cases ha : a = []
      · subst ha
        have RN : Hid (Sg.run f x (wls s.data.toList) = Sg.run f y ((grp (pcl ([] ++ [p])) (lns q.data.toList)).map wlP)) := Lib.hid (by
          rw [HRN.out]
          show Sg.run f y ((grp [] (p.data.toList :: lns q.data.toList)).map wlP) = _
          rw [grp_more _ (fun z => z.1 rfl)]
          rfl)
        clear HRN
        gi_wp2_with fail
        refine ⟨trivial, ?_⟩
        gi_wp2_with (gi_at_builtin; refine app_in _ rfl _ _ 54 rfl W.heap.size 9 i0 (.string ByteArray.empty) 1 16 Tryz.underlying54 hi hz0 hz1 hz2 rfl (by decide) _ _ _ rfl (I1.out.own.alloc _) ⟨w1.heap.size, 0, none⟩ 1 1 [.string p] rfl rfl (cell_one_new _ _ _) (by simp [Value.oneCell']) (by unfold maxLen; omega) (by omega) (by simp; omega) ?_; intro v' w4 hown' hgrow hat; have M1 := Lib.hid (Whi.app FJ hnW I1.out.own I1.out.hj I1.out.off I1.out.gr I1.out.kps RN.out U1.out U2.out hown' hgrow hat); obtain ⟨av4, nv4, cv4, rfl⟩ := slice3 hown'; clear hown' hgrow hat)
        go_roundw
        case rel => exact ⟨_, q, _, _, rfl, M1.out⟩
        case measure => simp [sLen]; omega
      have hp : 0 < a.length := List.length_pos_iff.2 ha
      have hpi : (0 : Int) < (a.length : Int) := by omega
      have KH := Lib.hid (Tryz.strings_HasPrefix p ⟨#[32]⟩ w1)
      rw [show (⟨#[32]⟩ : ByteArray).data.toList = [32] from rfl, pre_bl] at KH
      rcases hbl : bl p.data.toList with _ | _
      · -- a new line
        rw [hbl] at KH
        have GN : Hid (Sg.run f x (wls s.data.toList) = Sg.run f y (wlP (pcl a) :: (grp (pcl ([] ++ [p])) (lns q.data.toList)).map wlP)) := Lib.hid (by
          rw [HRN.out, grp_new _ (fun z => ha (pcl_nil.1 z)) hbl]
          rfl)
        have KU := Lib.hid (unfold_any a (.slice av a.length cv) w1 (own_txs I1.out.own) (by omega) (by omega))
        clear HRN hbl
        gi_wp2_with fail
        refine ⟨trivial, (callsIn_wide.2 KH.out).mono ?_⟩
        rintro y0 w1' ⟨rfl, hw⟩
        subst hw
        clear KH
        gi_wp2_with fail
        refine ⟨trivial, (callsIn_wide.2 KU.out).mono ?_⟩
        rintro y0 w2 ⟨rfl, hb2⟩
        have I2 := I1.out.on FJ hn1 hb2
        obtain ⟨fn, tmps, assign, body, hy, hR⟩ := HY.out y S' w2 (wlP (pcl a)) (3 - 1) I2.hj ⟨_, GN.out⟩
        simp only [wlP_un, en3] at hy
        have HI2 := Lib.hid I2
        have sz2 : W.heap.size ≤ w2.heap.size := I2.kps.size
        clear I2 hb2 KU I1
        rcases hf : f y (wlP (pcl a)) with ⟨y2, _ | _⟩
        · rw [hf] at hR
          have R2 : Hid (Sg.run f x (wls s.data.toList) = (y2, false)) := Lib.hid (by rw [GN.out, Sg.run_no hf])
          clear hf GN
          gi_wp2
          refine hR.mono ?_
          rintro y0 W3 ⟨rfl, S3, g3, k3, ho⟩
          have ZZ := Lib.hid (show (∃ S', Gr S W S' ∧ Kps (fun k => S k ∨ k = tB) W W3 ∧ Out J JX (Sg.run f x (wls s.data.toList)) S' W3) from ⟨S3, HI2.out.gr.trans g3 HI2.out.kps.size, (HI2.out.kps.trans k3 HI2.out.gr).mono (fun k q => Or.inl q), by rw [R2.out]; exact ho⟩)
          clear g3 k3 ho HI2 hy hR R2
          gi_wp2
          refine bodyPost_ret (results_none rfl _ _ _) rfl ?_
          exact ⟨⟨_, rfl⟩, ZZ.out⟩
        · rw [hf] at hR
          have R2 : Hid (Sg.run f x (wls s.data.toList) = Sg.run f y2 ((grp (pcl ([] ++ [p])) (lns q.data.toList)).map wlP)) := Lib.hid (by rw [GN.out, Sg.run_yes hf])
          clear hf GN
          gi_wp2
          refine hR.mono ?_
          rintro y0 W3 ⟨rfl, S3, g3, k3, ho⟩
          have hJ3 : Hid (J y2 S3 W3) := Lib.hid (by
            rcases ho with ⟨_, u⟩ | ⟨u, _⟩
            · exact u
            · cases u)
          have G3 : Hid (Gr S W S3) := Lib.hid (HI2.out.gr.trans g3 HI2.out.kps.size)
          have K3 : Hid (Kps S W W3) := Lib.hid (HI2.out.kps.trans k3 HI2.out.gr)
          have O3 : W3.ownsRow W.heap.size 9 1 (.slice none 0 0) 0 (strs []) := World.ownsRow_nil _ _ _ _
          have sz3 : W.heap.size ≤ W3.heap.size := K3.out.size
          clear g3 k3 ho HI2 hy hR
          gi_wp2_with (gi_at_builtin; refine app_in _ rfl _ _ 54 rfl W.heap.size 9 i0 (.string ByteArray.empty) 1 16 Tryz.underlying54 hi hz0 hz1 hz2 rfl (by decide) _ _ _ rfl (O3.alloc _) ⟨W3.heap.size, 0, none⟩ 1 1 [.string p] rfl rfl (cell_one_new _ _ _) (by simp [Value.oneCell']) (by unfold maxLen; omega) (by omega) (by simp; omega) ?_; intro v' w4 hown' hgrow hat; have M1 := Lib.hid (Whi.app FJ hnW (a := []) O3 hJ3.out (fun g hg => (by cases hg)) G3.out K3.out R2.out U1.out U2.out hown' hgrow hat); obtain ⟨av4, nv4, cv4, rfl⟩ := slice3 hown'; clear hown' hgrow hat)
          go_roundw
          case rel => exact ⟨_, q, _, _, rfl, M1.out⟩
          case measure => simp [sLen]; omega
      · -- the line goes on
        rw [hbl] at KH
        have RN : Hid (Sg.run f x (wls s.data.toList) = Sg.run f y ((grp (pcl (a ++ [p])) (lns q.data.toList)).map wlP)) := Lib.hid (by
          rw [HRN.out, grp_more _ (fun z => by rw [hbl] at z; exact absurd z.2 (by decide)), pcl_snoc])
        clear HRN hbl
        gi_wp2_with fail
        refine ⟨trivial, (callsIn_wide.2 KH.out).mono ?_⟩
        rintro y0 w1' ⟨rfl, hw⟩
        subst hw
        clear KH
        gi_wp2_with (gi_at_builtin; refine app_in _ rfl _ _ 54 rfl W.heap.size 9 i0 (.string ByteArray.empty) 1 16 Tryz.underlying54 hi hz0 hz1 hz2 rfl (by decide) _ _ _ rfl (I1.out.own.alloc _) ⟨w1'.heap.size, 0, none⟩ 1 1 [.string p] rfl rfl (cell_one_new _ _ _) (by simp [Value.oneCell']) (by unfold maxLen; omega) (by omega) (by simp; omega) ?_; intro v' w4 hown' hgrow hat; have M1 := Lib.hid (Whi.app FJ hnW I1.out.own I1.out.hj I1.out.off I1.out.gr I1.out.kps RN.out T1.out T2.out hown' hgrow hat); obtain ⟨av4, nv4, cv4, rfl⟩ := slice3 hown'; clear hown' hgrow hat)
        go_roundw
        case rel => exact ⟨_, q, _, _, rfl, M1.out⟩
        case measure => simp [sLen]; omega
end Go.Proofs.YtpplfcfhjpfckaaGreatDoor
