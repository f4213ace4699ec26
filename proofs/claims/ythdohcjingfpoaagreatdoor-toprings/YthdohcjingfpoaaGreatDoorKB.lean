/-
  What is proved here: a map of events by their names as a list of them by its order; what (*desk.Desk).Names answers (a contract over the translation).
  What is proved here: what slices.Grow answers at no rings, and slices.Concat at two lists of them (contracts over the translation).
  What is proved here: what slices.Compact answers at rings (a contract over the translation).
-/
import Derived.Test.YthdohcjingfpoaaGreatDoorKA
import Derived.Test.YthdohcjingfpoaaGreatDoorShelfI
import Derived.Maps.OwnSet
import Derived.Sort.KeysCollected
import Derived.Test.YthdohcjingfpoaaGreatDoorWA
import Derived.Lib.AppendZerosOnto
namespace Go.Proofs.YthdohcjingfpoaaGreatDoor.Dk
open Go.RowKit Qu Go.Maps Go.Sort Go.Shelf

/-- What an event's name reads as; an event as a value. -/
def nk (s : ByteArray) : Lit := .string s.data.toList
abbrev Ev := Evt × Evs
def evV (p : Ev) : Value := .agg (ecells p.1 p.2)
/-- A map of events, by their order. -/
def evD (l : List Ev) : DataW Value := .map (l.map fun p => (nk p.1.name, .held (evV p)))
def tokR (v : Value) : Option (DataW Value × List MemPlace) := some (.held v, [])
theorem ba_inj {a b : ByteArray} (h : a.data.toList = b.data.toList) : a = b := by
  apply ByteArray.ext
  have := congrArg List.toArray h
  simpa using this
theorem same_nk (a b : ByteArray) : (nk a).sameKey (nk b) = decide (a = b) := by
  unfold nk Lit.sameKey
  by_cases h : a = b
  · subst h; simp
  · rw [decide_eq_false h]
    have : ¬ a.data.toList = b.data.toList := fun e => h (ba_inj e)
    simpa using this
/-- Which of two names stands first. -/
def nlt (a b : ByteArray) : Prop := bytesBefore a.data.toList b.data.toList = true
instance (a b : ByteArray) : Decidable (nlt a b) := by unfold nlt; infer_instance
theorem bb_self : ∀ l : List UInt8, bytesBefore l l = false
  | [] => rfl
  | a :: r => by simp [bytesBefore, bb_self r]
theorem bb_tr : ∀ a b c : List UInt8, bytesBefore a b = true → bytesBefore b c = true → bytesBefore a c = true
  | [], [], _, h, _ => by simp [bytesBefore] at h
  | [], _ :: _, [], _, k => by simp [bytesBefore] at k
  | [], _ :: _, _ :: _, _, _ => rfl
  | _ :: _, [], _, h, _ => by simp [bytesBefore] at h
  | _ :: _, _ :: _, [], _, k => by simp [bytesBefore] at k
  | x :: a, y :: b, z :: c, h, k => by
    simp only [bytesBefore, Bool.or_eq_true, decide_eq_true_eq, Bool.and_eq_true, beq_iff_eq] at h k ⊢
    rcases h with h | ⟨rfl, h⟩
    · rcases k with k | ⟨rfl, k⟩
      · exact Or.inl (UInt8.lt_trans h k)
      · exact Or.inl h
    · rcases k with k | ⟨rfl, k⟩
      · exact Or.inl k
      · exact Or.inr ⟨rfl, bb_tr a b c h k⟩
theorem bb_tot : ∀ a b : List UInt8, bytesBefore a b = false → bytesBefore b a = false → a = b
  | [], [], _, _ => rfl
  | [], _ :: _, h, _ => by simp [bytesBefore] at h
  | _ :: _, [], _, h => by simp [bytesBefore] at h
  | x :: a, y :: b, h, k => by
    simp only [bytesBefore, Bool.or_eq_false_iff, decide_eq_false_iff_not, Bool.and_eq_false_imp, beq_iff_eq] at h k
    have e : x = y := UInt8.le_antisymm (UInt8.not_lt.1 k.1) (UInt8.not_lt.1 h.1)
    subst e
    rw [bb_tot a b (h.2 rfl) (k.2 rfl)]
theorem nlt_self (a : ByteArray) : ¬ nlt a a := by unfold nlt; rw [bb_self]; simp
theorem nlt_tr {a b c : ByteArray} (h : nlt a b) (k : nlt b c) : nlt a c := bb_tr _ _ _ h k
theorem nlt_tot {a b : ByteArray} (h : ¬ nlt a b) (k : ¬ nlt b a) : a = b := ba_inj (bb_tot _ _ (by unfold nlt at h; simpa using h) (by unfold nlt at k; simpa using k))
/-- By their names, each once. -/
def Srt (l : List Evt) : Prop := l.Pairwise (fun x y => nlt x.name y.name)
def insE {α : Type} (f : α → Evt) (x : α) : List α → List α
  | [] => [x]
  | y :: r => if nlt (f x).name (f y).name then x :: y :: r else y :: insE f x r
def outE {α : Type} (f : α → Evt) (nm : ByteArray) (l : List α) : List α := l.filter (fun p => !decide ((f p).name = nm))
def hasE (nm : ByteArray) (l : List Evt) : Bool := l.any (fun p => decide (p.name = nm))
theorem insE_map {α : Type} (f : α → Evt) (x : α) : ∀ l : List α, (insE f x l).map f = insE id (f x) (l.map f)
  | [] => rfl
  | y :: r => by
    by_cases h : nlt (f x).name (f y).name
    · simp [insE, h]
    · simp [insE, h, insE_map f x r]
theorem outE_map {α : Type} (f : α → Evt) (nm : ByteArray) (l : List α) : (outE f nm l).map f = outE id nm (l.map f) := by
  unfold outE
  rw [List.filter_map]
  rfl
theorem insE_mem {α : Type} (f : α → Evt) (x z : α) : ∀ l : List α, z ∈ insE f x l ↔ z = x ∨ z ∈ l
  | [] => by simp [insE]
  | y :: r => by
    unfold insE
    split
    · simp
    · rw [List.mem_cons, insE_mem f x z r, List.mem_cons]
      constructor
      · rintro (h | h | h)
        · exact Or.inr (Or.inl h)
        · exact Or.inl h
        · exact Or.inr (Or.inr h)
      · rintro (h | h | h)
        · exact Or.inr (Or.inl h)
        · exact Or.inl h
        · exact Or.inr (Or.inr h)
theorem insE_srt {x : Evt} : ∀ {l : List Evt}, Srt l → (∀ p ∈ l, p.name ≠ x.name) → Srt (insE id x l)
  | [], _, _ => List.pairwise_singleton _ _
  | y :: r, h, hn => by
    have h' := List.pairwise_cons.1 h
    unfold insE
    split
    · rename_i c
      exact List.pairwise_cons.2 ⟨fun z hz => by
        rcases List.mem_cons.1 hz with rfl | hz
        · exact c
        · exact nlt_tr c (h'.1 z hz), h⟩
    · rename_i c
      refine List.pairwise_cons.2 ⟨fun z hz => ?_, insE_srt h'.2 (fun p hp => hn p (List.mem_cons_of_mem _ hp))⟩
      rcases (insE_mem id x z r).1 hz with rfl | hz
      · by_cases q : nlt y.name z.name
        · exact q
        · exact absurd (nlt_tot q c) (hn y List.mem_cons_self)
      · exact h'.1 z hz
theorem outE_srt {l : List Evt} {nm : ByteArray} (h : Srt l) : Srt (outE id nm l) := List.Pairwise.sublist List.filter_sublist h
theorem insE_len {α : Type} (f : α → Evt) (x : α) : ∀ l : List α, (insE f x l).length = l.length + 1
  | [] => rfl
  | y :: r => by
    unfold insE
    split
    · simp
    · simp [insE_len f x r]
theorem outE_mem {α : Type} {f : α → Evt} {nm : ByteArray} {l : List α} {z : α} : z ∈ outE f nm l ↔ z ∈ l ∧ (f z).name ≠ nm := by
  unfold outE
  rw [List.mem_filter]
  simp
theorem evD_del (l : List Ev) (nm : ByteArray) : (evD l).del (nk nm) = evD (outE Prod.fst nm l) := by
  unfold evD outE DataW.del
  simp only [List.filter_map, Function.comp_def, same_nk]
theorem evD_ins (x : Ev) : ∀ l : List Ev, DataW.insert (nk x.1.name, DataW.held (evV x)) (l.map fun p => (nk p.1.name, DataW.held (evV p))) = (insE Prod.fst x l).map fun p => (nk p.1.name, DataW.held (evV p))
  | [] => rfl
  | y :: r => by
    have e : Lit.before (nk x.1.name) (nk y.1.name) = bytesBefore x.1.name.data.toList y.1.name.data.toList := rfl
    simp only [List.map_cons, DataW.insert, e]
    by_cases h : nlt x.1.name y.1.name
    · have h' : bytesBefore x.1.name.data.toList y.1.name.data.toList = true := h
      simp [insE, h, h']
    · have h' : bytesBefore x.1.name.data.toList y.1.name.data.toList = false := by unfold nlt at h; simpa using h
      simp [insE, h, h', evD_ins x r]
theorem evD_put (x : Ev) (l : List Ev) : (evD l).put (nk x.1.name) (.held (evV x)) = evD (insE Prod.fst x (outE Prod.fst x.1.name l)) := by
  have : (evD l).put (nk x.1.name) (.held (evV x)) = .map (DataW.insert (nk x.1.name, .held (evV x)) ((l.map fun p => (nk p.1.name, DataW.held (evV p))).filter fun p => !p.1.sameKey (nk x.1.name))) := rfl
  rw [this, List.filter_map]
  simp only [Function.comp_def, same_nk]
  rw [evD_ins]
  rfl
theorem evD_has (l : List Ev) (nm : ByteArray) : Maps.has (evD l) (nk nm) = hasE nm (l.map Prod.fst) := by
  unfold evD hasE
  rw [Maps.has_eq, List.any_map, List.any_map]
  simp only [Function.comp_def, same_nk]
theorem evD_size (l : List Ev) : Maps.size (evD l) = l.length := by
  unfold evD
  rw [Maps.size_eq, List.length_map]
/-- The first event of a name. -/
def fndE (nm : ByteArray) (l : List Ev) : Option Ev := l.find? (fun p => decide (p.1.name = nm))
theorem evD_at (nm : ByteArray) (z : DataW Value) : ∀ l : List Ev, (evD l).atKey (nk nm) z = (match fndE nm l with | some p => .held (evV p) | none => z)
  | [] => rfl
  | p :: r => by
    have ih := evD_at nm z r
    unfold evD DataW.atKey fndE at ih ⊢
    simp only [List.map_cons, List.find?_cons, same_nk]
    by_cases h : p.1.name = nm
    · simp [h]
    · simp only [h, decide_false]
      exact ih
theorem fnd_of {l : List Ev} (hs : Srt (l.map Prod.fst)) {p : Ev} (hp : p ∈ l) : fndE p.1.name l = some p := by
  induction l with
  | nil => cases hp
  | cons q r ih =>
    rw [List.map_cons] at hs
    have hs' := List.pairwise_cons.1 hs
    unfold fndE
    rw [List.find?_cons]
    rcases List.mem_cons.1 hp with rfl | h
    · simp
    · have := hs'.1 p.1 (List.mem_map_of_mem h)
      have ne : ¬ q.1.name = p.1.name := fun e => by
        rw [e] at this
        exact nlt_self _ this
      rw [decide_eq_false ne]
      exact ih hs'.2 h
theorem bb_le : ∀ a b : List UInt8, bytesBefore a b = true → a ≤ b
  | [], _, _ => List.nil_le _
  | _ :: _, [], h => by simp [bytesBefore] at h
  | x :: a, y :: b, h => by
    simp only [bytesBefore, Bool.or_eq_true, decide_eq_true_eq, Bool.and_eq_true, beq_iff_eq] at h
    rw [List.cons_le_cons_iff]
    rcases h with h | ⟨rfl, h⟩
    · exact Or.inl h
    · exact Or.inr ⟨rfl, bb_le a b h⟩
/-- The names as texts. -/
def nms (l : List Evt) : List Value := l.map (fun e => Value.string e.name)
theorem names_sorted {l : List Ev} (h : Srt (l.map Prod.fst)) {ss : List (List UInt8)} (hp : ss.Perm (strKeys (evD l))) : (ss.mergeSort leB).map encStr = nms (l.map Prod.fst) := by
  rw [mergeSort_of_perm hp]
  have e : strKeys (evD l) = l.map (fun p => p.1.name.data.toList) := by
    show (l.map fun p => (nk p.1.name, DataW.held (evV p))).map (fun p => strOf p.1) = _
    rw [List.map_map]
    rfl
  rw [e, List.mergeSort_of_pairwise]
  · unfold nms
    rw [List.map_map, List.map_map]
    apply List.map_congr_left
    intro p _
    simp [encStr]
  · unfold Srt at h
    rw [List.pairwise_map] at h ⊢
    exact h.imp (fun q => by
      unfold leB
      exact decide_eq_true (bb_le _ _ q))
theorem law : Keyed Tryz.prog 9 := string_keyed Tryz.underlying9
theorem keysAt (mb : Option Nat) (W : World) : CallsIn Fence.wide 5 Tryz.prog 37 #[.map mb] W fun e w' => e = .returned (.func (.func 76) #[] #[.pointer (some ⟨W.heap.size, 0, none⟩)]) ∧ w' = W.alloc (.cells #[.map mb] 80) :=
  AnyZ.keys_in Tryz.keysM Fence.wide 5 trivial rfl mb W
theorem sortsAt (m : Nat) : AnyZ.SortsIn Tryz.prog Tryz.sortedS_ren Fence.wide m :=
  ⟨fun blk off cap ss W hH hblk hsz => callsIn_wide.2 (AnyM.slices_Sort_string Tryz.sortS blk off cap ss W hH hblk hsz),
   fun p cap W => callsIn_wide.2 (AnyM.slices_Sort_string_none Tryz.sortS p cap W)⟩
set_option maxHeartbeats 1000000 in
theorem sortedAt {H : Type} (b nn : Nat) (D0 : DataW H) (R : Value → Option (DataW H × List MemPlace)) (w : World) (hown : w.ownsMap Tryz.prog 9 R b nn D0) (hmax : Maps.size D0 ≤ maxLen) (hbytes : Maps.size D0 * 16 ≤ 140737488355328) :
    CallsIn Fence.wide 5 Tryz.prog 36 #[.func (.func 76) #[] #[.pointer (some ⟨w.heap.size, 0, none⟩)]] (w.alloc (.cells #[.map (some b)] 80)) fun e w' => ∃ (v : Value) (ss : List (List UInt8)), e = .returned v ∧ ss.Perm (strKeys D0) ∧
      w'.ownsRow (w.alloc (.cells #[.map (some b)] 80)).heap.size 9 1 v ss.length ((ss.mergeSort (fun x y => decide (x ≤ y))).map encStr) ∧ (v = .slice none 0 0 ↔ ss = []) ∧ Below (w.alloc (.cells #[.map (some b)] 80)).heap.size (w.alloc (.cells #[.map (some b)] 80)) w' := by
  have hbl := hown.lt
  have hseq : SeqGives Fence.wide 2 Tryz.prog 76 #[.pointer (some ⟨w.heap.size, 0, none⟩)] encStr (fun ss => ss.Perm (strKeys D0)) (Maps.size D0) (w.alloc (.cells #[.map (some b)] 80)) :=
    AnyZ.keys_gives (ρ := Tryz.keysM_ren) { Tryz.keysM with } Fence.wide _ trivial rfl (by omega) w.heap.size b nn D0 _ (by simp) (by simp) (by
      obtain ⟨es, clock, hb, Ft, hs, hD⟩ := hown
      exact ⟨es, clock, (Below.heap_alloc _ _ b hbl).trans hb, Ft, hs, hD⟩)
  exact AnyZ.sorted_in Tryz.sortedS Fence.wide 5 trivial trivial trivial trivial rfl (by omega) (sortsAt _) (enters_of Tryz.func75 (by kernel_rfl) rfl) 76 #[.pointer (some ⟨w.heap.size, 0, none⟩)] trivial (enters_of Tryz.func76 (by kernel_rfl) rfl) _ _ hmax hbytes _ hseq
set_option maxHeartbeats 1000000 in
/-- Names at a desk whose map is known. -/
theorem names_any (b bm nn : Nat) (l : List Ev) (w : World) (hc : w.cell? ⟨b, 2, none⟩ = some (.map (some bm))) (hown : w.ownsMap Tryz.prog 9 tokR bm nn (evD l)) (hs : Srt (l.map Prod.fst)) (hl : l.length ≤ 1000000) :
    Calls Tryz.prog 12 #[.pointer (some ⟨b, 0, none⟩)] w fun e w' => ∃ v, e = .returned v ∧ w'.ownsRow w.heap.size 9 1 v l.length (nms (l.map Prod.fst)) ∧ Below w.heap.size w w' := by
  have bl := cell_in hc
  have hm1 : Maps.size (evD l) ≤ maxLen := by rw [evD_size]; unfold maxLen; omega
  have hm2 : Maps.size (evD l) * 16 ≤ 140737488355328 := by rw [evD_size]; omega
  refine (callsIn_wide (n := 6)).1 ?_
  have hfK : Fence.wide.fn 37 := trivial
  have hfS : Fence.wide.fn 36 := trivial
  refine callsIn_of_wp Tryz.func12 rfl trivial ?_ rfl
  simp only [Tryz.ntmps12, List.size_toArray, List.length_cons, List.length_nil, Nat.reduceAdd, Nat.reduceSub, Array.replicate_succ, Array.replicate_zero, List.push_toArray, List.append_toArray, List.nil_append, List.cons_append]
  gi_wp2_with (first
    | (gi_at_call 37; refine (keysAt _ _).mono ?_; rintro e w' ⟨rfl, rfl⟩)
    | (gi_at_call 36; refine (sortedAt bm nn (evD l) tokR w hown hm1 hm2).mono ?_; rintro e w' ⟨v, ss, rfl, hS, hrow, hnil, hb⟩))
  go_ret
  have e1 := names_sorted hs hS
  have e2 : ss.length = l.length := by
    rw [hS.length_eq]
    show ((l.map fun p => (nk p.1.name, DataW.held (evV p))).map (fun p => strOf p.1)).length = _
    rw [List.length_map, List.length_map]
  have e3 : (ss.mergeSort (fun x y => decide (x ≤ y))).map encStr = nms (l.map Prod.fst) := e1
  rw [e3, e2] at hrow
  exact ⟨v, rfl, ownsRow_base_a hrow (by simp), ((Below.refl _ w).alloc (Nat.le_refl _) _).trans (hb.mono (by simp))⟩
end Go.Proofs.YthdohcjingfpoaaGreatDoor.Dk
namespace Go.Proofs.YthdohcjingfpoaaGreatDoor.Dk
open Go.RowKit Qu

theorem appQ_any {w : World} {n0 : Nat} {v vo : Value} {l mo : List Rq} (h : Ow w n0 v l) (hm : Rd w vo mo) (hn : n0 ≤ w.heap.size) (hl : l.length + mo.length ≤ 1000000000) :
    ∃ v' w', (∀ ty, (Builtin.append_ #[41, 41] ty #[v, vo]).run Tryz.prog w = .ok v' w') ∧ Ow w' n0 v' (l ++ mo) ∧ Below n0 w w' := by
  obtain ⟨v', w', hr, r1, r2, _⟩ := app5_at h hm hn hl
  exact ⟨v', w', hr, r1, (Below.refl n0 w).grown r2 hn (fun j hj => (h.lt j hj).1)⟩
theorem below_dr (w : World) : Below w.heap.size w w.drew := ⟨rfl, rfl, rfl, Nat.le_refl _, fun _ _ => rfl⟩
theorem zc_size (n : Nat) : (Builtin.zeroCells (Value.agg #[.int .i64 0, .string ⟨#[]⟩, .int .i64 0, .int .i64 0, .int .i64 0]).cells n).size = n * 5 := by
  show (Builtin.zeroCells #[.int .i64 0, .string ⟨#[]⟩, .int .i64 0, .int .i64 0, .int .i64 0] n).size = _
  simp [Builtin.zeroCells]
set_option maxRecDepth 100000 in
theorem grw_any (n : Nat) (w : World) (h : n ≤ 1000000) :
    Calls Tryz.prog 113 #[.slice none 0 0, .int .i64 n] w fun e w' => ∃ u, e = .returned u ∧ Ow w' w.heap.size u [] ∧ Below w.heap.size w w' := by
  rcases Nat.eq_zero_or_pos n with rfl | h0
  · go_enter Tryz.func113, Tryz.ntmps113
    go_wp2
    go_ret
    exact ⟨_, rfl, World.ownsRow_nil _ _ _ _, Below.refl _ _⟩
  · obtain ⟨i0, hi, hz0, hz1, hz2⟩ := info_parts info_crng
    obtain ⟨G, hG⟩ : ∃ G, G = grownCap w n 0 45 := ⟨_, rfl⟩
    have hG1 : n ≤ G := by rw [hG]; exact grownCap_ge w _ _ _
    have hG2 : G ≤ maxLen := by rw [hG]; exact grownCap_le_maxLen w n 0 45 (by unfold maxLen; omega)
    obtain ⟨C, hC⟩ : ∃ C : Array Value, C = #[] ++ Builtin.zeroCells (Value.agg #[.int .i64 0, .string ⟨#[]⟩, .int .i64 0, .int .i64 0, .int .i64 0]).cells n ++ Builtin.zeroCells (Value.agg #[.int .i64 0, .string ⟨#[]⟩, .int .i64 0, .int .i64 0, .int .i64 0]).cells (G - n) := ⟨_, rfl⟩
    have cs : C.size = G * 5 := by rw [hC, Array.size_append, Array.size_append, zc_size, zc_size]; simp; omega
    have AW : Hid (∀ ty, (Builtin.append_ #[41, 3] ty #[.slice none 0 0, .int .i64 n]).run Tryz.prog w = .ok (.slice (some ⟨w.heap.size, 0, none⟩) n G) (w.drew.alloc (.cells C 45))) := Lib.hid (fun ty => by
      have hc : Builtin.nextslicecap n 0 * 48 ≤ 281474976710656 := by
        have : Builtin.nextslicecap n 0 = n := by
          unfold Builtin.nextslicecap
          simp
          omega
        rw [this]
        omega
      have q := Lib.run_append_grow_zeros (P := Tryz.prog) w 41 3 ty 45 i0 _ .i64 .i64 Tryz.underlying41 Tryz.underlying3 hi hz0 none 0 0 [] (by simp [Builtin.firstCells]) n h0 (by omega) (by omega) (by omega) (by rw [hz2]; omega) (by rw [hz2, Nat.zero_add]; exact hc)
      rw [Nat.zero_add, ← hG] at q
      rw [q, hC])
    have O1 : Hid (Ow (w.drew.alloc (.cells C 45)) w.heap.size (.slice (some ⟨w.heap.size, 0, none⟩) 0 G) []) := Lib.hid (World.ownsRow_made w.drew C G (Nat.le_refl _) hG2 cs)
    have B1 : Hid (Below w.heap.size w (w.drew.alloc (.cells C 45))) := Lib.hid ((below_dr w).trans (below_alloc w.drew _))
    have g0 : 0 ≤ G := Nat.zero_le _
    clear hC cs hG hG2 hi hz0 hz1 hz2
    go_enter Tryz.func113, Tryz.ntmps113
    go_wp2_with (at_builtin; refine wpl_app _ rfl _ _ 41 3 rfl _ _ rfl rfl (AW.out _) ?_)
    go_ret
    exact ⟨_, rfl, O1.out, B1.out⟩
/-- Two lists in a block. -/
def Two2 (w : World) (b : Nat) (x y : Value) : Prop := w.cell? ⟨b, 0, none⟩ = some x ∧ w.cell? ⟨b, 1, none⟩ = some y
set_option maxRecDepth 100000 in
set_option maxHeartbeats 1000000 in
theorem cat_any (l m : List Rq) (v u : Value) (b : Nat) (w : World) (ht : Two2 w b v u) (hv : Rd w v l) (hu : Rd w u m) (hl : l.length ≤ 100000) (hm : m.length ≤ 100000) :
    Calls Tryz.prog 68 #[.slice (some ⟨b, 0, none⟩) 2 2] w fun e w' => ∃ x, e = .returned x ∧ Ow w' w.heap.size x (l ++ m) ∧ Below w.heap.size w w' := by
  have HV := Lib.hid hv
  have HU := Lib.hid hu
  have HT := Lib.hid ht
  obtain ⟨t0, t1⟩ := ht
  have tl := cell_in t0
  obtain ⟨av, cv, rfl, _⟩ := hv
  obtain ⟨au, cu, rfl, _⟩ := hu
  go_enter Tryz.func68, Tryz.ntmps68
  go_wp2_with fail
  go_loop [11, 3, 5] (fun i s _ => (i = .int .i64 0 ∧ s = .int .i64 0) ∨ (i = .int .i64 1 ∧ s = .int .i64 l.length) ∨ (i = .int .i64 2 ∧ s = .int .i64 ((l.length + m.length : Nat) : Int))) (fun i _ _ => 2 - (intOf i).toNat)
  case atStart => exact Or.inl ⟨rfl, rfl⟩
  case round =>
    rcases hrel with ⟨rfl, rfl⟩ | ⟨rfl, rfl⟩ | ⟨rfl, rfl⟩
    · go_wp2
      go_round
      case rel => exact Or.inr (Or.inl ⟨rfl, by go_num⟩)
      case measure => simp [intOf]
    · go_wp2
      go_round
      case rel => exact Or.inr (Or.inr ⟨rfl, by go_num⟩)
      case measure => simp [intOf]
    · obtain ⟨S, hS⟩ : ∃ S, S = l.length + m.length := ⟨_, rfl⟩
      rw [← hS]
      have hS2 : S ≤ 1000000 := by omega
      clear hS t0 t1 tl
      go_wp2_with fail
      refine (grw_any S w hS2).mono ?_
      rintro e w1 ⟨x, rfl, ho, hb⟩
      have O1 := Lib.hid ho
      have B1 := Lib.hid hb
      clear ho hb
      go_wp2_with fail
      go_loopw [27, 6, 8] (fun i s _ wr => ∃ x, s = x ∧ Below w.heap.size w wr ∧ ((i = .int .i64 0 ∧ Hid (Ow wr w.heap.size x [])) ∨ (i = .int .i64 1 ∧ Hid (Ow wr w.heap.size x l)) ∨ (i = .int .i64 2 ∧ Hid (Ow wr w.heap.size x (l ++ m))))) (fun i _ _ _ => 2 - (intOf i).toNat)
      case atStart => exact ⟨x, rfl, B1.out, Or.inl ⟨rfl, O1⟩⟩
      case round =>
        obtain ⟨x2, hx, hB, hc⟩ := hrel
        replace hx := hx.symm
        subst hx
        have HB := Lib.hid hB
        rcases hc with ⟨rfl, HO⟩ | ⟨rfl, HO⟩ | ⟨rfl, HO⟩
        · obtain ⟨v6, w6, ap, o6, b6⟩ := appQ_any HO.out (HV.out.on hB) hB.size (by simp; omega)
          have AP := Lib.hid ap
          have O6 : Hid (Ow w6 w.heap.size v6 l) := Lib.hid o6
          have B6 := Lib.hid (HB.out.trans b6)
          obtain ⟨t0, t1⟩ := HT.out
          have tl := cell_in t0
          have s0 := (hB.cell (p := ⟨b, 0, none⟩) tl).trans t0
          have sl := cell_in s0
          clear ap o6 b6 hB t0 t1 tl
          go_wp2_with (at_builtin; refine wpl_app _ rfl _ _ 41 41 rfl _ _ rfl rfl (AP.out _) ?_)
          go_roundw
          case rel => exact ⟨v6, rfl, B6.out, Or.inr (Or.inl ⟨rfl, O6⟩)⟩
          case measure => simp [intOf]
        · obtain ⟨v6, w6, ap, o6, b6⟩ := appQ_any HO.out (HU.out.on hB) hB.size (by omega)
          have AP := Lib.hid ap
          have O6 : Hid (Ow w6 w.heap.size v6 (l ++ m)) := Lib.hid o6
          have B6 := Lib.hid (HB.out.trans b6)
          obtain ⟨t0, t1⟩ := HT.out
          have tl := cell_in t1
          have s1 := (hB.cell (p := ⟨b, 1, none⟩) tl).trans t1
          have sl := cell_in s1
          clear ap o6 b6 hB t0 t1 tl
          go_wp2_with (at_builtin; refine wpl_app _ rfl _ _ 41 41 rfl _ _ rfl rfl (AP.out _) ?_)
          go_roundw
          case rel => exact ⟨v6, rfl, B6.out, Or.inr (Or.inr ⟨rfl, O6⟩)⟩
          case measure => simp [intOf]
        · go_wp2
          go_ret
          exact ⟨x2, rfl, HO.out, HB.out⟩
end Go.Proofs.YthdohcjingfpoaaGreatDoor.Dk
namespace Go.Proofs.YthdohcjingfpoaaGreatDoor.Dk
open Go.RowKit Qu

/-- Is a ring of a list another one than the one ahead of it? -/
def ccB (l : List Rq) (i : Nat) : Bool := decide (i = 0) || !eqQ (l.getD i zq) (l.getD (i - 1) zq)
/-- A list without what is as the one ahead of it. -/
def cpT (l : List Rq) (n : Nat) : List Rq := ((List.range n).filter (ccB l)).map (fun i => l.getD i zq)
def cpQ (l : List Rq) : List Rq := cpT l l.length
theorem cpT_yes {l : List Rq} {n : Nat} (h : ccB l n = true) : cpT l (n + 1) = cpT l n ++ [l.getD n zq] := by
  unfold cpT
  rw [List.range_succ, List.filter_append, List.map_append]
  simp [h]
theorem cpT_no {l : List Rq} {n : Nat} (h : ccB l n = false) : cpT l (n + 1) = cpT l n := by
  unfold cpT
  rw [List.range_succ, List.filter_append, List.map_append]
  simp [h]
theorem getD_at {l : List Rq} {i : Nat} (h : i < l.length) : l.getD i zq = l[i] := by
  rw [List.getD_eq_getElem?_getD, List.getElem?_eq_getElem h]; rfl
theorem cpT_all {l : List Rq} : ∀ n, n ≤ l.length → (∀ i, i < n → ccB l i = true) → cpT l n = l.take n
  | 0, _, _ => by simp [cpT]
  | n + 1, hn, h => by
    rw [cpT_yes (h n (by omega)), cpT_all n (by omega) (fun i hi => h i (by omega)), List.take_succ_eq_append_getElem (by omega), getD_at (by omega)]
/-- How far the leaving out has come. -/
def CI (l : List Rq) (k j : Nat) (d : List Rq) : Prop :=
  d.length = l.length ∧ k < j ∧ j ≤ l.length ∧ d.take k = cpT l j ∧ ∀ t, j ≤ t + 1 → d.getD t zq = l.getD t zq
theorem CI.begin {l : List Rq} {k : Nat} (hk : k < l.length) (ha : ∀ i, i < k → ccB l i = true) (hn : ccB l k = false) : CI l k (k + 1) l :=
  ⟨rfl, by omega, by omega, by rw [cpT_no hn, cpT_all k (by omega) ha], fun t _ => rfl⟩
theorem CI.skip {l : List Rq} {k j : Nat} {d : List Rq} (h : CI l k j d) (hj : j < l.length) (hn : ccB l j = false) : CI l k (j + 1) d := by
  obtain ⟨a, b, c, e, f⟩ := h
  exact ⟨a, by omega, by omega, by rw [cpT_no hn, e], fun t ht => f t (by omega)⟩
theorem CI.keep {l : List Rq} {k j : Nat} {d : List Rq} (h : CI l k j d) (hj : j < l.length) (hn : ccB l j = true) : CI l (k + 1) (j + 1) (d.set k (l.getD j zq)) := by
  obtain ⟨a, b, c, e, f⟩ := h
  refine ⟨by simpa using a, by omega, by omega, ?_, fun t ht => ?_⟩
  · rw [cpT_yes hn, ← e, List.take_succ_eq_append_getElem (by rw [List.length_set]; omega), List.take_set_of_le (Nat.le_refl _)]
    simp
  · rw [List.getD_eq_getElem?_getD, List.getElem?_set_ne (by omega), ← List.getD_eq_getElem?_getD]
    exact f t (by omega)
theorem CI.done {l : List Rq} {k : Nat} {d : List Rq} (h : CI l k l.length d) : d.take k = cpQ l := h.2.2.2.1
/-- What is sorted weakly rises without what is there twice. -/
theorem cpT_mem {l : List Rq} : ∀ n, n ≤ l.length → ∀ x, x ∈ cpT l n ↔ ∃ i, i < n ∧ l.getD i zq = x
  | 0, _, x => by simp [cpT]
  | n + 1, hn, x => by
    rcases hc : ccB l n with _ | _
    · rw [cpT_no hc, cpT_mem n (by omega) x]
      refine ⟨fun ⟨i, hi, e⟩ => ⟨i, by omega, e⟩, fun ⟨i, hi, e⟩ => ?_⟩
      rcases (by omega : i < n ∨ i = n) with q | q
      · exact ⟨i, q, e⟩
      · subst q
        unfold ccB at hc
        simp only [Bool.or_eq_false_iff, decide_eq_false_iff_not, Bool.not_eq_false'] at hc
        exact ⟨i - 1, by omega, by rw [← eqQ_iff.1 hc.2]; exact e⟩
    · rw [cpT_yes hc, List.mem_append, cpT_mem n (by omega) x]
      constructor
      · rintro (⟨i, hi, e⟩ | h)
        · exact ⟨i, by omega, e⟩
        · simp at h
          exact ⟨n, by omega, h.symm⟩
      · rintro ⟨i, hi, e⟩
        rcases (by omega : i < n ∨ i = n) with q | q
        · exact Or.inl ⟨i, q, e⟩
        · subst q
          rw [e]
          exact Or.inr (List.mem_singleton.2 rfl)
theorem cpQ_mem {l : List Rq} {x : Rq} : x ∈ cpQ l ↔ x ∈ l := by
  unfold cpQ
  rw [cpT_mem l.length (Nat.le_refl _)]
  constructor
  · rintro ⟨i, hi, e⟩
    rw [← e, getD_at hi]
    exact List.getElem_mem _
  · intro h
    obtain ⟨i, hi, e⟩ := List.getElem_of_mem h
    exact ⟨i, hi, by rw [getD_at hi]; exact e⟩
theorem cpT_rs {l : List Rq} (h : l.Pairwise (fun x y => ¬ oc y x < 0)) : ∀ n, n ≤ l.length → (cpT l n).Pairwise (fun x y => oc x y < 0)
  | 0, _ => by simp [cpT]
  | n + 1, hn => by
    rcases hc : ccB l n with _ | _
    · rw [cpT_no hc]
      exact cpT_rs h n (by omega)
    · rw [cpT_yes hc, List.pairwise_append]
      refine ⟨cpT_rs h n (by omega), by simp, fun x hx y hy => ?_⟩
      simp at hy
      subst hy
      obtain ⟨i, hi, e⟩ := (cpT_mem n (by omega) x).1 hx
      have le : ∀ a b, a < b → b < l.length → ¬ oc (l.getD b zq) (l.getD a zq) < 0 := fun a b hab hb => by
        rw [getD_at hb, getD_at (by omega)]
        exact List.pairwise_iff_getElem.1 h a b (by omega) hb hab
      have ne : oc (l.getD n zq) (l.getD (n - 1) zq) ≠ 0 := by
        unfold ccB at hc
        simp only [Bool.or_eq_true, decide_eq_true_eq, Bool.not_eq_true'] at hc
        rcases hc with q | q
        · omega
        · intro z
          unfold eqQ at q
          rw [z] at q
          simp at q
      have l1 := le (n - 1) n (by omega) (by omega)
      have p1 : 0 < oc (l.getD n zq) (l.getD (n - 1) zq) := by omega
      have p2 : oc (l.getD (n - 1) zq) (l.getD n zq) < 0 := (oc_cm.anti _ _).2 p1
      rw [← e]
      rcases (by omega : i = n - 1 ∨ i < n - 1) with q | q
      · rw [q]; exact p2
      · have l2 := le i (n - 1) q (by omega)
        rcases Int.lt_trichotomy (oc (l.getD (n - 1) zq) (l.getD i zq)) 0 with z | z | z
        · exact absurd z l2
        · rw [(oc_cm.eq _ _).1 z] at p2; exact p2
        · exact oc_cm.tr _ _ _ ((oc_cm.anti _ _).2 z) p2
theorem cpQ_rs {l : List Rq} (h : l.Pairwise (fun x y => ¬ oc y x < 0)) : Rs (cpQ l) := cpT_rs h _ (Nat.le_refl _)
/-- What rises is as it is. -/
theorem cpQ_same {l : List Rq} (h : Rs l) : cpQ l = l := by
  have : cpT l l.length = l.take l.length := cpT_all l.length (Nat.le_refl _) (fun i hi => by
    unfold ccB
    rcases Nat.eq_zero_or_pos i with rfl | h0
    · rfl
    · have q : oc (l.getD (i - 1) zq) (l.getD i zq) < 0 := by
        rw [getD_at hi, getD_at (by omega)]
        exact List.pairwise_iff_getElem.1 h (i - 1) i (by omega) hi (by omega)
      have q2 := (oc_cm.anti _ _).1 q
      unfold eqQ
      rw [decide_eq_false (by omega : ¬ oc (l.getD i zq) (l.getD (i - 1) zq) = 0)]
      simp)
  unfold cpQ
  rw [this, List.take_length]
theorem cpT_len (l : List Rq) (n : Nat) : (cpT l n).length ≤ n := by
  unfold cpT
  rw [List.length_map]
  exact Nat.le_trans (List.length_filter_le _ _) (by simp)
set_option maxRecDepth 100000 in
set_option maxHeartbeats 4000000 in
theorem compactQ (l : List Rq) (n0 : Nat) (v : Value) (w : World) (hh : Ow w n0 v l) (hl : l.length ≤ 1000000) :
    Calls Tryz.prog 112 #[v] w fun e w' => ∃ u, e = .returned u ∧ Ow w' n0 u (cpQ l) ∧ u.ownBlock = v.ownBlock ∧ w.grownBy w' v.ownBlock := by
  by_cases h2 : l.length < 2
  · have E : cpQ l = l := by
      unfold cpQ
      rw [cpT_all l.length (Nat.le_refl _) (fun i hi => by rw [show i = 0 by omega]; rfl), List.take_length]
    have HP : Hid (∃ u, Ending.returned v = .returned u ∧ Ow w n0 u (cpQ l) ∧ u.ownBlock = v.ownBlock ∧ w.grownBy w v.ownBlock) := Lib.hid ⟨v, rfl, by rw [E]; exact hh, rfl, grown_refl _ _⟩
    obtain ⟨a, cap, rfl⟩ : ∃ a cap, v = .slice a l.length cap := by
      rcases hh.open with ⟨rfl, rfl⟩ | ⟨g, cap, L, rfl, _⟩
      · exact ⟨none, 0, rfl⟩
      · exact ⟨_, cap, rfl⟩
    clear hh E
    generalize l.length = n at *
    go_enter Tryz.func112, Tryz.ntmps112
    go_wp2
    go_ret
    exact HP.out
  · obtain ⟨gb, cap, rfl⟩ : ∃ g cap, v = .slice (some ⟨g, 0, none⟩) l.length cap := by
      rcases hh.open with ⟨rfl, rfl⟩ | ⟨g, cap, L, rfl, _⟩
      · simp at h2
      · exact ⟨g, cap, rfl⟩
    have HH := Lib.hid hh
    have cl := hh.blk.2.2.1
    have KEEP : Hid ((∀ i, i < l.length → ccB l i = true) → cpQ l = l) := Lib.hid (fun h => by unfold cpQ; rw [cpT_all l.length (Nat.le_refl _) h, List.take_length])
    have C0 : ccB l 0 = true := rfl
    clear hh
    go_enter Tryz.func112, Tryz.ntmps112
    go_wp2_with fail
    go_loopw [3, 4, 5] (fun i _ _ wr => ∃ k : Nat, 1 ≤ k ∧ k ≤ l.length ∧ i = .int .i64 k ∧ Hid (∀ t, t < k → ccB l t = true) ∧ Hid (Below w.heap.size w wr)) (fun i _ _ _ => l.length - (intOf i).toNat)
    case atStart => exact ⟨1, by omega, by omega, rfl, Lib.hid (fun t ht => by rw [show t = 0 by omega]; exact C0), Lib.hid (Below.refl _ _)⟩
    case round =>
      obtain ⟨k, k1, hk, rfl, HF, HB⟩ := hrel
      by_cases hlt : k < l.length
      · have OB : Ow _ n0 _ l := ow_below HH.out HB.out
        obtain ⟨a0, a1, a2, a3, a4⟩ := OB.cell (i := k) hlt
        obtain ⟨b0, b1, b2, b3, b4⟩ := OB.cell (i := k - 1) (by omega)
        clear OB
        have CE : Hid (ccB l k = !eqQ (l.getD k zq) (l.getD (k - 1) zq)) := Lib.hid (by unfold ccB; rw [decide_eq_false (by omega : ¬ k = 0)]; rfl)
        have HE : ∀ W : World, (binOp .eql 45 (agQ (l.getD k zq)) (agQ (l.getD (k - 1) zq))).run Tryz.prog W = .ok (.bool (eqQ (l.getD k zq) (l.getD (k - 1) zq))) W := fun W => ring_eql_run _ _ W
        generalize l.getD k zq = X at a0 a1 a2 a3 a4 CE HE
        generalize l.getD (k - 1) zq = Y at b0 b1 b2 b3 b4 CE HE
        generalize eqQ X Y = C at CE HE
        have bl := cell_in a0
        have i1 : (0 : Int) ≤ (k : Int) - 1 := by omega
        have i2 : (k : Int) - 1 < (l.length : Int) := by omega
        have i3 : ((k : Int) - 1).toNat = k - 1 := by omega
        go_upto_region 6 with fail
        go_quiet (fail)
        have B2 : Hid (Below w.heap.size w (wr.drewN nq)) := Lib.hid ⟨HB.out.os, HB.out.tape, HB.out.output, HB.out.size, HB.out.block⟩
        clear a0 a1 a2 a3 a4 b0 b1 b2 b3 b4 HE bl i1 i2 i3 HB
        generalize wr.drewN nq = W1 at B2 ⊢
        rcases C with _ | _
        · have N1 : Hid (∀ t, t < k + 1 → ccB l t = true) := Lib.hid (fun t ht => by
            rcases (by omega : t < k ∨ t = k) with q | q
            · exact HF.out t q
            · rw [q, CE.out]; rfl)
          go_wp2
          go_roundw
          case rel => exact ⟨k + 1, by omega, by omega, by go_num, N1, B2⟩
          case measure => simp [intOf]; omega
        · have D0 : Hid (CI l k (k + 1) l) := Lib.hid (CI.begin hlt HF.out (by rw [CE.out]; rfl))
          have O1 : Hid (Ow W1 n0 (.slice (some ⟨gb, 0, none⟩) l.length cap) l) := Lib.hid (ow_below HH.out B2.out)
          have G1 : Hid (w.grownBy W1 (some gb)) := Lib.hid (grown_below B2.out _)
          clear HF CE B2 KEEP C0
          go_wp2_with fail
          obtain ⟨k0, hk0⟩ : ∃ k0, k0 = k := ⟨_, rfl⟩
          subst hk0
          go_loopw [3, 5] (fun kv jv wr => ∃ (k m : Nat) (d : List Rq), kv = .int .i64 k ∧ jv = .int .i64 m ∧ 1 ≤ m ∧ CI l k (k0 + m) d ∧ Ow wr n0 (.slice (some ⟨gb, 0, none⟩) l.length cap) d ∧ w.grownBy wr (some gb)) (fun _ jv _ => l.length - (intOf jv).toNat)
          case atStart => exact ⟨k0, 1, l, rfl, rfl, by omega, D0.out, O1.out, G1.out⟩
          case round =>
            obtain ⟨k2, m, d, rfl, rfl, hm1, hD, hh, hB⟩ := hrel
            have kj := hD.2.1
            have jl := hD.2.2.1
            have dl := hD.1
            have HD := Lib.hid hD
            have HHd := Lib.hid hh
            have HB := Lib.hid hB
            clear hD hh hB D0 O1 G1
            by_cases hlt2 : k0 + m < l.length
            · obtain ⟨a0, a1, a2, a3, a4⟩ := HHd.out.cell (i := k0 + m) (by omega)
              obtain ⟨b0, b1, b2, b3, b4⟩ := HHd.out.cell (i := k0 + (m - 1)) (by omega)
              rw [HD.out.2.2.2.2 _ (by omega)] at a0 a1 a2 a3 a4 b0 b1 b2 b3 b4
              have CE : Hid (ccB l (k0 + m) = !eqQ (l.getD (k0 + m) zq) (l.getD (k0 + (m - 1)) zq)) := Lib.hid (by unfold ccB; rw [decide_eq_false (by omega : ¬ k0 + m = 0), show k0 + m - 1 = k0 + (m - 1) by omega]; rfl)
              have HE : ∀ W : World, (binOp .neq 45 (agQ (l.getD (k0 + m) zq)) (agQ (l.getD (k0 + (m - 1)) zq))).run Tryz.prog W = .ok (.bool (!eqQ (l.getD (k0 + m) zq) (l.getD (k0 + (m - 1)) zq))) W := fun W => ring_neq_run _ _ W
              obtain ⟨X, hX⟩ : ∃ X, X = l.getD (k0 + m) zq := ⟨_, rfl⟩
              rw [← hX] at a0 a1 a2 a3 a4 CE HE
              have HX := Lib.hid hX
              clear hX
              generalize l.getD (k0 + (m - 1)) zq = Y at b0 b1 b2 b3 b4 CE HE
              generalize eqQ X Y = C at CE HE
              have bl := cell_in a0
              rw [Nat.add_mul] at a0 a1 a2 a3 a4 b0 b1 b2 b3 b4
              have i1 : (0 : Int) ≤ (m : Int) - 1 := by omega
              have i2 : (m : Int) - 1 < ((l.length - k0 : Nat) : Int) := by omega
              have i3 : ((m : Int) - 1).toNat = m - 1 := by omega
              have i4 : m < l.length - k0 := by omega
              go_upto_region 11 with fail
              go_quiet (fail)
              have O2 : Hid (Ow (wr.drewN nq) n0 (.slice (some ⟨gb, 0, none⟩) l.length cap) d) := Lib.hid (ow_below HHd.out (⟨rfl, rfl, rfl, Nat.le_refl _, fun _ _ => rfl⟩ : Below wr.heap.size wr (wr.drewN nq)))
              have G2 : Hid (w.grownBy (wr.drewN nq) (some gb)) := Lib.hid ⟨HB.out.os, HB.out.tape, HB.out.output, HB.out.size, HB.out.block⟩
              clear a0 a1 a2 a3 a4 b0 b1 b2 b3 b4 HE bl i1 i2 i3 HB HHd
              generalize wr.drewN nq = W2 at O2 G2 ⊢
              rcases C with _ | _
              · obtain ⟨a0, a1, a2, a3, a4⟩ := O2.out.cell (i := k0 + m) (by omega)
                rw [HD.out.2.2.2.2 _ (by omega), ← HX.out] at a0 a1 a2 a3 a4
                rw [Nat.add_mul] at a0 a1 a2 a3 a4
                have bl := cell_in a0
                have N1 := Lib.hid (HD.out.keep hlt2 (by rw [CE.out]; rfl))
                rw [← HX.out] at N1
                have SH := Lib.hid (O2.out.put (i := k2) (by omega) X)
                have SA := Lib.hid (grown_tr G2.out (grown_cells gb (encQ X) (k2 * 5) W2))
                have TH := Lib.hid (O2.out.there (o := k2 * 5) (m := 5) (by omega))
                have i5 : k2 < l.length := by omega
                go_wp2_with (refine rq_store ?s1 (.tmp 51) (.tmp 50) ?s2 ?s9 gb (k2 * 5) X ?s3 ?s4 ?s6 ?s5; (case s1 => rfl); (case s2 => rfl); (case s9 => rfl); (case s3 => rfl); (case s4 => rfl); (case s6 => exact TH.out))
                go_roundw
                case rel => exact ⟨k2 + 1, m + 1, d.set k2 X, by go_num, by go_num, by omega, by rw [show k0 + (m + 1) = k0 + m + 1 by omega]; exact N1.out, SH.out, SA.out⟩
                case measure => simp [intOf]; omega
              · have N1 := Lib.hid (HD.out.skip hlt2 (by rw [CE.out]; rfl))
                go_wp2
                go_roundw
                case rel => exact ⟨k2, m + 1, d, rfl, by go_num, by omega, by rw [show k0 + (m + 1) = k0 + m + 1 by omega]; exact N1.out, O2.out, G2.out⟩
                case measure => simp [intOf]; omega
            · have e1 : k0 + m = l.length := by omega
              have i4 : ¬ m < l.length - k0 := by omega
              have i5 : k2 < l.length := by omega
              have hcl : ∀ ty, (Builtin.clear_ #[41] ty #[.slice (some ⟨gb, k2 * 5, none⟩) (l.length - k2) (cap - k2)]).run Tryz.prog wr = .ok (.tuple #[]) (wr.setCells gb (k2 * 5) (zrs (l.length - k2))) :=
                fun ty => run_clearQ wr ty gb (k2 * 5) _ _ (by omega) (HHd.out.there (by omega))
              have S := HHd.out.cut (i := k2) (by omega) (zrs (l.length - k2)) (by rw [zrs_len]; omega)
              have D1 := HD.out
              rw [e1] at D1
              rw [D1.done] at S
              have SH := Lib.hid S
              have SA := Lib.hid (grown_tr HB.out (grown_cells gb (zrs (l.length - k2)) (k2 * 5) wr))
              clear S D1 HD HHd HB
              go_wp2
              go_ret
              exact ⟨_, rfl, SH.out, rfl, SA.out⟩
      · have N : Hid (cpQ l = l) := Lib.hid (KEEP.out (fun i hi => HF.out i (by omega)))
        go_wp2
        go_ret
        exact ⟨_, rfl, by rw [N.out]; exact ow_below HH.out HB.out, rfl, grown_below HB.out _⟩
end Go.Proofs.YthdohcjingfpoaaGreatDoor.Dk
