/-
  What is proved here: plain facts on one event, and two that are the same, as chimelaw4.PlanAlone asks them.
  What is proved here: what a slice literal of one or two events leaves, and what plan.Clashes answers of any list of events (contracts over the translation).
-/
import Derived.Test.YtoncfgfjdlgfcaaGreatDoorPP
import Derived.Test.YtoncfgfjdlgfcaaGreatDoorBZ
import Derived.Great.Walk
namespace Go.Proofs.YtoncfgfjdlgfcaaGreatDoor.Pp
open Go.RowKit Bz Cal Txt

/-- The event that is asked first. -/
abbrev evO : Evt := ⟨⟨#[97]⟩, ByteArray.empty, 700, 10, false, noRl, [], [], [], []⟩
theorem evO_fault : evF evO = 0 := by decide
theorem evO_list : tmL 0 [] evO 1 2000 = [(700, 700, 710)] := by
  have o1 : okS 1 2000 := by unfold okS; omega
  have hz : Zo.zf 0 [] = 0 := by decide
  have le : evO.len = 10 := rfl
  have re : rea evO 700 = some 700 := by decide
  have ie : ∀ x, isE evO x ↔ x = 700 := fun x => by
    unfold isE isS
    have r0 : evO.rep = false := rfl
    have m0 : evO.more = [] := rfl
    have n0 : evO.nots = [] := rfl
    have s0 : evO.start = 700 := rfl
    rw [r0, m0, n0, s0]
    simp
  refine tm_ext (tmL_rise evO_fault o1) (by simp) (fun y => ?_)
  rw [tmL_mem evO_fault hz o1]
  obtain ⟨y1, y2, y3⟩ := y
  unfold isTm
  simp only [ie]
  constructor
  · rintro ⟨rfl, ⟨r, hr, ht⟩, _, _⟩
    obtain ⟨_, _, q3⟩ := tim_nil.1 ht
    simp only [Prod.mk.injEq, true_and] at q3
    have hr' : (700 : Int) = r := by rw [re] at hr; simpa using hr
    simp
    omega
  · intro q
    simp at q
    obtain ⟨rfl, rfl, rfl⟩ := q
    exact ⟨rfl, ⟨700, re, tim_nil.2 ⟨by decide, by rw [le]; decide, by rw [le]; rfl⟩⟩, by omega, by omega⟩
theorem evO_told : tbF 0 [] evO 1 2000 = 0 ∧ tbL 0 [] evO 1 2000 = [(700, 700, 710)] := by
  have h0 : tbF 0 [] evO 1 2000 = 0 := by
    unfold tbF
    rw [if_neg (fun q => q (by decide)), if_neg (by decide), evO_list]
    rfl
  refine ⟨h0, ?_⟩
  unfold tbL
  rw [if_pos h0, evO_list]
/-- Each as long; none without a fault is too long a list. -/
theorem tb_len {a : Int} {l : List (Int × Int)} {e : Evt} {fr t : Int} : ∀ y ∈ tbL a l e fr t, y.2.2 = y.2.1 + e.len := fun y hy => by
  unfold tbL at hy
  split at hy
  · rename_i h
    obtain ⟨⟨h1, h2⟩, h3, _, _⟩ := tb_good h
    obtain ⟨_, ⟨r, _, ht⟩, _, _⟩ := (tmL_mem h1 h2 (str_ok h3)).1 hy
    exact (tim_some ht).2.2.1
  · simp at hy
theorem tb_few {a : Int} {l : List (Int × Int)} {e : Evt} {fr t : Int} (h : tbF a l e fr t = 0) : (tbL a l e fr t).length ≤ 200 := by
  obtain ⟨_, _, h3, h4⟩ := tb_good h
  rw [h3]
  exact h4
theorem tb_few2 {a : Int} {l : List (Int × Int)} {e : Evt} {fr t : Int} : (tbL a l e fr t).length ≤ 200 := by
  by_cases h : tbF a l e fr t = 0
  · exact tb_few h
  · unfold tbL
    rw [if_neg h]
    simp
section
variable {g : Evt → Int} {tm : Evt → List Tm} {x : Evt × Evs}
theorem te_one (h : (tm x.1).length ≤ 200) : teF g tm [x] = g x.1 := by
  have e0 : teG g [x] = g x.1 := by
    show (if g x.1 = 0 then 0 else g x.1) = g x.1
    split
    · rename_i q; exact q.symm
    · rfl
  unfold teF
  rw [e0, if_neg (by simp)]
  have n : teN tm [x] = (tm x.1).length := by simp [teN]
  split
  · rfl
  · rename_i q
    rw [n, if_neg (by omega)]
    exact (Decidable.byContradiction q : g x.1 = 0).symm
theorem cl_one : clL (teF g tm [x]) (teL g tm [x]) = [] := by
  unfold clL
  split
  · rename_i h
    unfold teL
    rw [if_pos h]
    rfl
  · rfl
theorem te_two : teF g tm [x, x] = if ¬ g x.1 = 0 then g x.1 else if 100 < (tm x.1).length then 4 else 0 := by
  have e0 : teG g [x, x] = g x.1 := by
    show (if g x.1 = 0 then (if g x.1 = 0 then 0 else g x.1) else g x.1) = g x.1
    by_cases q : g x.1 = 0 <;> simp [q]
  unfold teF
  rw [e0, if_neg (by simp)]
  have n : teN tm [x, x] = (tm x.1).length + (tm x.1).length := by simp [teN]
  rw [n]
  split
  · rfl
  · by_cases h : 100 < (tm x.1).length
    · rw [if_pos h, if_pos (by omega)]
    · rw [if_neg h, if_neg (by omega)]
theorem cl_two (h : teF g tm [x, x] = 0) : clL (teF g tm [x, x]) (teL g tm [x, x]) = if shB (tkb (tm x.1)) (tkb (tm x.1)) = true then [(0, 1)] else [] := by
  unfold clL
  rw [if_pos h]
  unfold teL
  rw [if_pos h]
  show (if shB (tkb (tm x.1)) (tkb (tm x.1)) = true then [(((0 : Nat) : Int), ((1 : Nat) : Int))] else []) ++ [] ++ [] = _
  rw [List.append_nil, List.append_nil]
  rfl
end
/-- Two that are the same clash, if they take any time. -/
theorem sh_same {T : List Tm} {n : Int} (h : ∀ y ∈ T, y.2.2 = y.2.1 + n) (hn : 0 ≤ n) : shB (tkb T) (tkb T) = (decide (0 < T.length) && decide (0 < n)) := by
  rw [Bool.eq_iff_iff]
  simp only [shB, tkb, List.any_eq_true, List.mem_map, Bool.and_eq_true, decide_eq_true_eq, mtB]
  constructor
  · rintro ⟨_, ⟨y, hy, rfl⟩, _, ⟨z, hz, rfl⟩, hm⟩
    have := h y hy
    have := h z hz
    simp only at hm
    exact ⟨List.length_pos_of_mem hy, by omega⟩
  · rintro ⟨h1, h2⟩
    obtain ⟨y, hy⟩ := List.exists_mem_of_length_pos h1
    have := h y hy
    exact ⟨_, ⟨y, hy, rfl⟩, _, ⟨y, hy, rfl⟩, by simp only; omega⟩
end Go.Proofs.YtoncfgfjdlgfcaaGreatDoor.Pp
namespace Go.Proofs.YtoncfgfjdlgfcaaGreatDoor.Pp
open Go.RowKit Bz Cal Txt

theorem evl_new (W : World) (L : List (Evt × Evs)) (t : TypeId) (h : ∀ x ∈ L, EvB W x.1 x.2) : Evl (W.alloc (.cells (L.flatMap encE).toArray t)) (.slice (some ⟨W.heap.size, 0, none⟩) L.length L.length) L := by
  have b := below_one W (.cells (L.flatMap encE).toArray t)
  refine ⟨⟨_, _, rfl, Or.inr ⟨W.heap.size, 0, rfl, fun j u hu => ?_⟩⟩, fun x hx => (h x hx).on b⟩
  simp only [World.cell?, heap_alloc_new W]
  simp
  exact hu
theorem built_one (e : Evt) (s : Evs) : Tryz.prog.builtSlice 33 1 [(0, .agg (ecells e s))] = some (([(e, s)] : List (Evt × Evs)).flatMap encE).toArray := by kernel_rfl
theorem built_two (e : Evt) (s : Evs) : Tryz.prog.builtSlice 33 2 [(0, .agg (ecells e s)), (1, .agg (ecells e s))] = some (([(e, s), (e, s)] : List (Evt × Evs)).flatMap encE).toArray := by kernel_rfl
theorem ev_build1 {ops : Array Oper} {rest : List Oper} {op : Oper} {a : Act} {w : World} {Q : Exit → Act → World → Prop} (hgd : op.guard = none) (x : Operand) (ho : op.op = .buildSlice 25 1 #[(0, x)])
    (d : Option Tmp) (hd : op.dst = d) (e : Evt) (s : Evs) (hx : a.eval x = .agg (ecells e s)) (hE : EvB w e s)
    (h : ∀ W', Evl W' (.slice (some ⟨w.heap.size, 0, none⟩) 1 1) [(e, s)] → Below w.heap.size w W' → wpList Tryz.prog ops Q rest (a.put d (.slice (some ⟨w.heap.size, 0, none⟩) 1 1)) W') : wpList Tryz.prog ops Q (op :: rest) a w := by
  refine Great.wpList_buildSliceTo hgd 25 33 1 #[(0, x)] ho w.heap.size rfl d hd Tryz.underlying25 _ ?_ (h _ (evl_new w [(e, s)] 33 (fun y hy => by simp at hy; subst hy; exact hE)) (below_one w _))
  simp only [List.map_toArray, List.map_cons, List.map_nil, hx]
  exact built_one e s
theorem ev_build2 {ops : Array Oper} {rest : List Oper} {op : Oper} {a : Act} {w : World} {Q : Exit → Act → World → Prop} (hgd : op.guard = none) (x y : Operand) (ho : op.op = .buildSlice 25 2 #[(0, x), (1, y)])
    (d : Option Tmp) (hd : op.dst = d) (e : Evt) (s : Evs) (hx : a.eval x = .agg (ecells e s)) (hy : a.eval y = .agg (ecells e s)) (hE : EvB w e s)
    (h : ∀ W', Evl W' (.slice (some ⟨w.heap.size, 0, none⟩) 2 2) [(e, s), (e, s)] → Below w.heap.size w W' → wpList Tryz.prog ops Q rest (a.put d (.slice (some ⟨w.heap.size, 0, none⟩) 2 2)) W') : wpList Tryz.prog ops Q (op :: rest) a w := by
  refine Great.wpList_buildSliceTo hgd 25 33 2 #[(0, x), (1, y)] ho w.heap.size rfl d hd Tryz.underlying25 _ ?_ (h _ (evl_new w [(e, s), (e, s)] 33 (fun z hz => by simp at hz; subst hz; exact hE)) (below_one w _))
  simp only [List.map_toArray, List.map_cons, List.map_nil, hx, hy]
  exact built_two e s
theorem teL_ok (g : Evt → Int) (tm : Evt → List Tm) (L : List (Evt × Evs)) (h : ∀ x ∈ L, (tm x.1).length ≤ 200) : (teL g tm L).length ≤ 20 ∧ ∀ T ∈ teL g tm L, T.length ≤ 1000 := by
  unfold teL
  split
  · rename_i q
    refine ⟨?_, fun T hT => ?_⟩
    · unfold teM
      rw [List.length_map]
      unfold teF at q
      split at q
      · cases q
      · omega
    · unfold teM at hT
      obtain ⟨x, hx, rfl⟩ := List.mem_map.1 hT
      rw [tkb_len]
      have := h x hx
      omega
  · exact ⟨by simp, fun T hT => by simp at hT⟩
/-- What Clashes tells of any events. -/
theorem clash_any (a : Int) (l : List (Int × Int)) (L : List (Evt × Evs)) (fr t : Int) (v vl : Value) (w : World) (hz : ZoneIn w v a l) (hL : Evl w vl L) (hl : L.length ≤ 9223372036854775807) (hT : Tab w) :
    Calls Tryz.prog 15 #[v, vl, .int .i64 fr, .int .i64 t] w (ClA w (clL (teF (fun e => tbF a l e fr t) (fun e => tbL a l e fr t) L) (teL (fun e => tbF a l e fr t) (fun e => tbL a l e fr t) L)) (teF (fun e => tbF a l e fr t) (fun e => tbL a l e fr t) L)) := by
  obtain ⟨h1, h2⟩ := teL_ok (fun e => tbF a l e fr t) (fun e => tbL a l e fr t) L (fun _ _ => tb_few2)
  exact clash_of _ _ a l fr t v vl w hz (fun W q => each_of _ _ a l L fr t v vl W (hz.on q) (hL.on q) hl (fun _ _ _ => tb_few2) (fun x hx W' q' => tbetween_any a l v x.1 x.2 fr t W' ((hz.on q).on q') (((hL.on q).2 x hx).on q') ((hT.below q).below q'))) h1 h2
end Go.Proofs.YtoncfgfjdlgfcaaGreatDoor.Pp
