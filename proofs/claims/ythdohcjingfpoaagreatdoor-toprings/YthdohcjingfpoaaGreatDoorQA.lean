/-
  What is proved here: plain facts on rings by their order: how two texts and two rings stand, that the order parts whatever two that are not the same, and what is put into or taken out of a rising list; no function of the program is walked.
  What is proved here: what cmp.Compare answers at numbers and texts, cmp.Or at a row of numbers, and alarm.Order at two rings (contracts over the translation).
  What is proved here: rows of rings that are known whole: what builtin copy, append and clear do to them (laws over the translation's types); words on what a call keeps.
  What is proved here: what slices.Delete answers at a row of rings that a call owns, at one place (a contract over the translation).
-/
import Derived.Test.YthdohcjingfpoaaGreatDoorLow
import Derived.Deep.RegionHeld3
import Derived.Sort.Grow
import Derived.Laws.Cover1
import Derived.Deep.Cut
import Derived.Deep.CutRange
import Derived.Maps.AppendAt
import Derived.Lib.AppendZerosOnto
import Derived.Deep.RegionLaw
namespace Go.Proofs.YthdohcjingfpoaaGreatDoor.Qu
open Go.RowKit

/-- A ring: At, Name, Which, Alarm, Turn. -/
abbrev Rq := Int × ByteArray × Int × Int × Int
instance : Inhabited ByteArray := ⟨⟨#[]⟩⟩
def encQ (x : Rq) : List Value := [.int .i64 x.1, .string x.2.1, .int .i64 x.2.2.1, .int .i64 x.2.2.2.1, .int .i64 x.2.2.2.2]
theorem encQ_len (x : Rq) : (encQ x).length = 5 := rfl
theorem encQ_one (x : Rq) : ∀ u ∈ encQ x, u.oneCell' = true := by
  intro u hu
  simp only [encQ, List.mem_cons, List.not_mem_nil, or_false] at hu
  rcases hu with rfl | rfl | rfl | rfl | rfl <;> rfl
/-- The ring that is none. -/
def zq : Rq := (0, ⟨#[]⟩, 0, 0, 0)
/-- How two numbers stand. -/
def cmi (a b : Int) : Int := if a < b then -1 else if b < a then 1 else 0
/-- How two texts stand. -/
def cms (a b : ByteArray) : Int := if Op.bytesLess a.toList b.toList = true then -1 else if (Op.bytesLess a.toList b.toList || a.toList == b.toList) = false then 1 else 0
/-- The first of a list that is not 0, or 0. -/
def orL : List Int → Int
  | [] => 0
  | x :: l => if x = 0 then orL l else x
/-- How two rings stand. -/
def oc (x y : Rq) : Int := orL [cmi x.1 y.1, cms x.2.1 y.2.1, cmi x.2.2.1 y.2.2.1, cmi x.2.2.2.1 y.2.2.2.1, cmi x.2.2.2.2 y.2.2.2.2]

/-- A way to hold two things against one another. -/
structure Cm {α : Type} (f : α → α → Int) : Prop where
  eq : ∀ x y, f x y = 0 ↔ x = y
  anti : ∀ x y, f x y < 0 ↔ 0 < f y x
  tr : ∀ x y z, f x y < 0 → f y z < 0 → f x z < 0
theorem cmi_cm : Cm cmi where
  eq x y := by unfold cmi; split <;> (try split) <;> omega
  anti x y := by unfold cmi; split <;> (try split) <;> (try split) <;> omega
  tr x y z := by unfold cmi; split <;> (try split) <;> (try split) <;> (try split) <;> omega
theorem less_self : ∀ l : List UInt8, Op.bytesLess l l = false
  | [] => rfl
  | a :: l => by
    have ih := less_self l
    simp [Op.bytesLess, ih]
theorem less_tr : ∀ a b c : List UInt8, Op.bytesLess a b = true → Op.bytesLess b c = true → Op.bytesLess a c = true
  | _, [], _, h, _ => by cases ‹List UInt8› <;> simp [Op.bytesLess] at h
  | _, _ :: _, [], _, h => by simp [Op.bytesLess] at h
  | [], _ :: _, _ :: _, _, _ => by simp [Op.bytesLess]
  | x :: a, y :: b, z :: c, h, k => by
    simp only [Op.bytesLess, Bool.or_eq_true, decide_eq_true_eq, Bool.and_eq_true, beq_iff_eq] at h k ⊢
    rcases h with h | ⟨rfl, h⟩
    · rcases k with k | ⟨rfl, k⟩
      · exact Or.inl (UInt8.lt_trans h k)
      · exact Or.inl h
    · rcases k with k | ⟨rfl, k⟩
      · exact Or.inl k
      · exact Or.inr ⟨rfl, less_tr a b c h k⟩
theorem less_tot : ∀ a b : List UInt8, Op.bytesLess a b = false → Op.bytesLess b a = false → a = b
  | [], [], _, _ => rfl
  | [], _ :: _, h, _ => by simp [Op.bytesLess] at h
  | _ :: _, [], _, h => by simp [Op.bytesLess] at h
  | x :: a, y :: b, h, k => by
    simp only [Op.bytesLess, Bool.or_eq_false_iff, decide_eq_false_iff_not, Bool.and_eq_false_imp, beq_iff_eq] at h k
    have e : x = y := UInt8.le_antisymm (UInt8.not_lt.1 k.1) (UInt8.not_lt.1 h.1)
    subst e
    rw [less_tot a b (h.2 rfl) (k.2 rfl)]
theorem less_asym {a b : List UInt8} (h : Op.bytesLess a b = true) : Op.bytesLess b a = false := by
  rcases k : Op.bytesLess b a with _ | _
  · rfl
  · have := less_tr _ _ _ h k
    rw [less_self] at this
    cases this
theorem toList_inj {a b : ByteArray} (h : a.toList = b.toList) : a = b := by
  rw [ByteArray.toList_eq, ByteArray.toList_eq] at h
  apply ByteArray.ext
  have := congrArg List.toArray h
  simpa using this
theorem cms_neg (a b : ByteArray) : cms a b < 0 ↔ Op.bytesLess a.toList b.toList = true := by
  unfold cms
  split
  · rename_i h; simp [h]
  · rename_i h; split <;> simp [h]
theorem cms_zero (a b : ByteArray) : cms a b = 0 ↔ a = b := by
  constructor
  · intro h
    unfold cms at h
    split at h
    · cases h
    · split at h
      · cases h
      · rename_i h1 h2
        apply toList_inj
        rw [Bool.not_eq_true] at h1
        rw [h1] at h2
        simpa using h2
  · rintro rfl
    unfold cms
    rw [less_self]
    simp
theorem cms_pos (a b : ByteArray) : 0 < cms a b ↔ Op.bytesLess b.toList a.toList = true := by
  constructor
  · intro h
    rcases k : Op.bytesLess b.toList a.toList with _ | _
    · exfalso
      rcases k2 : Op.bytesLess a.toList b.toList with _ | _
      · have := (cms_zero a b).2 (toList_inj (less_tot _ _ k2 k))
        omega
      · have := (cms_neg a b).2 k2
        omega
    · rfl
  · intro h
    have h1 : ¬ cms a b < 0 := fun q => by
      rw [cms_neg] at q
      rw [less_asym h] at q
      cases q
    have h2 : ¬ cms a b = 0 := fun q => by
      rw [cms_zero] at q
      rw [q, less_self] at h
      cases h
    omega
theorem cms_cm : Cm cms where
  eq := cms_zero
  anti x y := by rw [cms_neg, cms_pos]
  tr x y z h k := by rw [cms_neg] at *; exact less_tr _ _ _ h k
/-- First by one thing, then by another. -/
def two {α β : Type} (f : α → α → Int) (g : β → β → Int) (x y : α × β) : Int := if f x.1 y.1 = 0 then g x.2 y.2 else f x.1 y.1
theorem two_cm {α β : Type} {f : α → α → Int} {g : β → β → Int} (hf : Cm f) (hg : Cm g) : Cm (two f g) where
  eq x y := by
    unfold two
    by_cases h : f x.1 y.1 = 0
    · rw [if_pos h, hg.eq]
      have e := (hf.eq _ _).1 h
      exact ⟨fun q => Prod.ext e q, fun q => by rw [q]⟩
    · rw [if_neg h]
      exact ⟨fun q => absurd q h, fun q => absurd ((hf.eq _ _).2 (by rw [q])) h⟩
  anti x y := by
    unfold two
    by_cases h : f x.1 y.1 = 0
    · have h2 : f y.1 x.1 = 0 := (hf.eq _ _).2 ((hf.eq _ _).1 h).symm
      rw [if_pos h, if_pos h2]
      exact hg.anti _ _
    · have h2 : ¬ f y.1 x.1 = 0 := fun q => h ((hf.eq _ _).2 ((hf.eq _ _).1 q).symm)
      rw [if_neg h, if_neg h2]
      exact hf.anti _ _
  tr x y z h k := by
    unfold two at *
    by_cases h1 : f x.1 y.1 = 0
    · have e := (hf.eq _ _).1 h1
      rw [if_pos h1] at h
      rw [e]
      by_cases h2 : f y.1 z.1 = 0
      · rw [if_pos h2] at k ⊢
        exact hg.tr _ _ _ h k
      · rw [if_neg h2] at k ⊢
        exact k
    · rw [if_neg h1] at h
      by_cases h2 : f y.1 z.1 = 0
      · have e := (hf.eq _ _).1 h2
        rw [← e, if_neg h1]
        exact h
      · rw [if_neg h2] at k
        have q := hf.tr _ _ _ h k
        rw [if_neg (by omega)]
        exact q
theorem oc_two (x y : Rq) : oc x y = two cmi (two cms (two cmi (two cmi cmi))) x y := by
  unfold oc two
  simp only [orL]
  split <;> (try split) <;> (try split) <;> (try split) <;> (try split) <;> simp_all
theorem oc_cm : Cm oc := by
  have h : oc = two cmi (two cms (two cmi (two cmi cmi))) := by funext x y; exact oc_two x y
  rw [h]
  exact two_cm cmi_cm (two_cm cms_cm (two_cm cmi_cm (two_cm cmi_cm cmi_cm)))
theorem oc_self (x : Rq) : oc x x = 0 := (oc_cm.eq x x).2 rfl

/-- Rising. -/
def Rs (M : List Rq) : Prop := M.Pairwise (fun x y => oc x y < 0)
theorem Rs.nil : Rs [] := List.Pairwise.nil
theorem rs_at {M : List Rq} (h : Rs M) {i j : Nat} (hij : i < j) (hj : j < M.length) : oc (M.getD i zq) (M.getD j zq) < 0 := by
  have := (List.pairwise_iff_getElem.1 h) i j (by omega) hj hij
  rw [List.getD_eq_getElem?_getD, List.getD_eq_getElem?_getD, List.getElem?_eq_getElem hj, List.getElem?_eq_getElem (by omega : i < M.length)]
  exact this
/-- Where a ring is, or would be. -/
structure Fnd (M : List Rq) (r : Rq) (p : Nat) : Prop where
  le : p ≤ M.length
  lo : ∀ a, a < p → oc (M.getD a zq) r < 0
  hi : ∀ a, p ≤ a → a < M.length → 0 ≤ oc (M.getD a zq) r
theorem getD_mem {M : List Rq} {a : Nat} (h : a < M.length) : M.getD a zq ∈ M := by
  rw [List.getD_eq_getElem?_getD, List.getElem?_eq_getElem h]
  exact List.getElem_mem h
theorem mem_getD {M : List Rq} {x : Rq} (h : x ∈ M) : ∃ a, a < M.length ∧ M.getD a zq = x := by
  obtain ⟨a, ha, e⟩ := List.getElem_of_mem h
  exact ⟨a, ha, by rw [List.getD_eq_getElem?_getD, List.getElem?_eq_getElem ha]; exact e⟩
/-- It is there just where it stands at its place. -/
theorem Fnd.there {M : List Rq} {r : Rq} {p : Nat} (h : Fnd M r p) (hM : Rs M) : r ∈ M ↔ p < M.length ∧ oc (M.getD p zq) r = 0 := by
  constructor
  · intro hr
    obtain ⟨a, ha, e⟩ := mem_getD hr
    have h1 : ¬ a < p := fun q => by have := h.lo a q; rw [e, oc_self] at this; omega
    rcases (by omega : a = p ∨ p < a) with q | q
    · subst q; exact ⟨ha, by rw [e]; exact oc_self r⟩
    · have k1 := rs_at hM q ha
      have k2 := h.hi p (Nat.le_refl _) (by omega)
      rw [e] at k1
      omega
  · rintro ⟨h1, h2⟩
    have := (oc_cm.eq _ _).1 h2
    rw [← this]
    exact getD_mem h1
/-- Put where it would be. -/
def ins (M : List Rq) (p : Nat) (r : Rq) : List Rq := M.take p ++ r :: M.drop p
theorem ins_len {M : List Rq} {p : Nat} {r : Rq} (h : p ≤ M.length) : (ins M p r).length = M.length + 1 := by simp [ins]; omega
theorem ins_mem {M : List Rq} {p : Nat} {r z : Rq} : z ∈ ins M p r ↔ z ∈ M ∨ z = r := by
  unfold ins
  have e : z ∈ M ↔ z ∈ M.take p ∨ z ∈ M.drop p := by
    rw [← List.mem_append, List.take_append_drop]
  rw [List.mem_append, List.mem_cons, e]
  constructor
  · rintro (h | h | h)
    · exact Or.inl (Or.inl h)
    · exact Or.inr h
    · exact Or.inl (Or.inr h)
  · rintro ((h | h) | h)
    · exact Or.inl h
    · exact Or.inr (Or.inr h)
    · exact Or.inr (Or.inl h)
theorem ins_rs {M : List Rq} {p : Nat} {r : Rq} (h : Fnd M r p) (hM : Rs M) (hr : r ∉ M) : Rs (ins M p r) := by
  unfold ins Rs
  rw [List.pairwise_append]
  refine ⟨List.Pairwise.sublist (List.take_sublist _ _) hM, ?_, ?_⟩
  · rw [List.pairwise_cons]
    refine ⟨fun y hy => ?_, List.Pairwise.sublist (List.drop_sublist _ _) hM⟩
    obtain ⟨a, ha, e⟩ := List.getElem_of_mem hy
    rw [List.length_drop] at ha
    have e2 : M.getD (p + a) zq = y := by
      rw [← e, List.getElem_drop, List.getD_eq_getElem?_getD, List.getElem?_eq_getElem (by omega : p + a < M.length)]
      rfl
    have k := h.hi (p + a) (by omega) (by omega)
    rw [e2] at k
    have ne : ¬ oc y r = 0 := fun q => hr (by rw [← (oc_cm.eq _ _).1 q]; exact List.mem_of_mem_drop hy)
    exact (oc_cm.anti r y).2 (by omega)
  · intro x hx y hy
    obtain ⟨a, ha, e⟩ := List.getElem_of_mem hx
    rw [List.length_take] at ha
    have e2 : M.getD a zq = x := by
      rw [← e, List.getElem_take, List.getD_eq_getElem?_getD, List.getElem?_eq_getElem (by omega : a < M.length)]
      rfl
    have k := h.lo a (by omega)
    rw [e2] at k
    rcases List.mem_cons.1 hy with rfl | hy
    · exact k
    · have h2 := hM
      unfold Rs at h2
      rw [← List.take_append_drop p M, List.pairwise_append] at h2
      exact h2.2.2 x hx y hy
/-- Without what is at a place. -/
def del (M : List Rq) (p : Nat) : List Rq := M.take p ++ M.drop (p + 1)
theorem del_len {M : List Rq} {p : Nat} (h : p < M.length) : (del M p).length = M.length - 1 := by simp [del]; omega
theorem del_zero (x : Rq) (M : List Rq) : del (x :: M) 0 = M := by simp [del]
theorem del_rs {M : List Rq} {p : Nat} (hM : Rs M) : Rs (del M p) := by
  unfold del Rs
  have h2 := hM
  unfold Rs at h2
  rw [← List.take_append_drop p M, List.pairwise_append] at h2
  rw [List.pairwise_append]
  refine ⟨h2.1, List.Pairwise.sublist (List.drop_sublist _ _) hM, fun x hx y hy => h2.2.2 x hx y ?_⟩
  have : M.drop (p + 1) = (M.drop p).drop 1 := by rw [List.drop_drop]
  rw [this] at hy
  exact List.mem_of_mem_drop hy
theorem del_mem {M : List Rq} {p : Nat} (hM : Rs M) (hp : p < M.length) {z : Rq} : z ∈ del M p ↔ z ∈ M ∧ z ≠ M.getD p zq := by
  have e0 : M = M.take p ++ M.getD p zq :: M.drop (p + 1) := by
    rw [List.getD_eq_getElem?_getD, List.getElem?_eq_getElem hp]
    simp
  have hM' := hM
  unfold Rs at hM'
  rw [e0, List.pairwise_append, List.pairwise_cons] at hM'
  obtain ⟨_, ⟨h1, _⟩, h2⟩ := hM'
  have e1 : z ∈ M ↔ z ∈ M.take p ∨ z = M.getD p zq ∨ z ∈ M.drop (p + 1) := by
    conv => lhs; rw [e0]
    rw [List.mem_append, List.mem_cons]
  rw [e1]
  unfold del
  rw [List.mem_append]
  constructor
  · rintro (h | h)
    · refine ⟨Or.inl h, fun q => ?_⟩
      have := h2 z h (M.getD p zq) List.mem_cons_self
      rw [q, oc_self] at this
      omega
    · refine ⟨Or.inr (Or.inr h), fun q => ?_⟩
      have := h1 z h
      rw [q, oc_self] at this
      omega
  · rintro ⟨h | h | h, q⟩
    · exact Or.inl h
    · exact absurd h q
    · exact Or.inr h
/-- Two rising lists with the same in them are the same. -/
theorem rs_ext : ∀ {M N : List Rq}, Rs M → Rs N → (∀ z, z ∈ M ↔ z ∈ N) → M = N
  | [], [], _, _, _ => rfl
  | [], y :: N, _, _, h => by have := (h y).2 List.mem_cons_self; cases this
  | x :: M, [], _, _, h => by have := (h x).1 List.mem_cons_self; cases this
  | x :: M, y :: N, hM, hN, h => by
    have hM' := List.pairwise_cons.1 hM
    have hN' := List.pairwise_cons.1 hN
    have e : x = y := by
      rcases List.mem_cons.1 ((h x).1 List.mem_cons_self) with q | q
      · exact q
      · rcases List.mem_cons.1 ((h y).2 List.mem_cons_self) with q2 | q2
        · exact q2.symm
        · have a1 := hN'.1 x q
          have a2 := hM'.1 y q2
          have := (oc_cm.anti _ _).1 a1
          omega
    subst e
    have e2 : M = N := rs_ext hM'.2 hN'.2 (fun z => by
      constructor
      · intro hz
        rcases List.mem_cons.1 ((h z).1 (List.mem_cons_of_mem _ hz)) with q | q
        · have := hM'.1 z hz
          rw [q, oc_self] at this
          omega
        · exact q
      · intro hz
        rcases List.mem_cons.1 ((h z).2 (List.mem_cons_of_mem _ hz)) with q | q
        · have := hN'.1 z hz
          rw [q, oc_self] at this
          omega
        · exact q)
    rw [e2]
end Go.Proofs.YthdohcjingfpoaaGreatDoor.Qu
namespace Go.Proofs.YthdohcjingfpoaaGreatDoor.Qu
open Go.RowKit

theorem cell_in {W : World} {b o : Nat} {v : Value} (k : W.cell? ⟨b, o, none⟩ = some v) : b < W.heap.size := by
  rcases Nat.lt_or_ge b W.heap.size with q | q
  · exact q
  · simp [World.cell?, Array.getElem?_eq_none q] at k
/-- A ring lies in a block. -/
def QBx (W : World) (b : Nat) (x : Rq) : Prop := W.cell? ⟨b, 0, none⟩ = some (.int .i64 x.1) ∧ W.cell? ⟨b, 1, none⟩ = some (.string x.2.1) ∧ W.cell? ⟨b, 2, none⟩ = some (.int .i64 x.2.2.1) ∧ W.cell? ⟨b, 3, none⟩ = some (.int .i64 x.2.2.2.1) ∧ W.cell? ⟨b, 4, none⟩ = some (.int .i64 x.2.2.2.2)
theorem QBx.lt {W : World} {b : Nat} {x : Rq} (h : QBx W b x) : b < W.heap.size := cell_in h.1
theorem QBx.on {W W' : World} {b : Nat} {x : Rq} (h : QBx W b x) (q : Below W.heap.size W W') : QBx W' b x :=
  ⟨(q.cell (p := ⟨b, 0, none⟩) h.lt).trans h.1, (q.cell (p := ⟨b, 1, none⟩) h.lt).trans h.2.1, (q.cell (p := ⟨b, 2, none⟩) h.lt).trans h.2.2.1, (q.cell (p := ⟨b, 3, none⟩) h.lt).trans h.2.2.2.1, (q.cell (p := ⟨b, 4, none⟩) h.lt).trans h.2.2.2.2⟩
theorem QBx.new (W : World) (x : Rq) (t : TypeId) : QBx (W.alloc (.cells #[.int .i64 x.1, .string x.2.1, .int .i64 x.2.2.1, .int .i64 x.2.2.2.1, .int .i64 x.2.2.2.2] t)) W.heap.size x := ⟨by simp, by simp, by simp, by simp, by simp⟩
theorem isNaN_any (x : Int) (w : World) : Calls Tryz.prog 77 #[.int .i64 x] w fun e w' => e = .returned (.bool false) ∧ w' = w := by
  go_enter Tryz.func77, Tryz.ntmps77
  go_wp2
  go_ret
  exact ⟨ret_bool (by simp), rfl⟩
theorem compare_any (a b : Int) (w : World) : Calls Tryz.prog 39 #[.int .i64 a, .int .i64 b] w fun e w' => e = .returned (.int .i64 (cmi a b)) ∧ w' = w := by
  have N1 : Hid (a < b → cmi a b = -1) := Lib.hid (fun h => if_pos h)
  have N2 : Hid (¬ a < b → b < a → cmi a b = 1) := Lib.hid (fun h k => by unfold cmi; rw [if_neg h, if_pos k])
  have N3 : Hid (¬ a < b → ¬ b < a → cmi a b = 0) := Lib.hid (fun h k => by unfold cmi; rw [if_neg h, if_neg k])
  generalize cmi a b = R at N1 N2 N3 ⊢
  by_cases h1 : a < b
  · have E := Lib.hid (N1.out h1)
    go_enter Tryz.func39, Tryz.ntmps39
    go_wp2_with (go_at_call 77; refine (isNaN_any _ _).mono ?_; rintro e w' ⟨rfl, rfl⟩)
    go_ret
    exact ⟨ret_int E.out.symm, rfl⟩
  by_cases h2 : b < a
  · have E := Lib.hid (N2.out h1 h2)
    go_enter Tryz.func39, Tryz.ntmps39
    go_wp2_with (go_at_call 77; refine (isNaN_any _ _).mono ?_; rintro e w' ⟨rfl, rfl⟩)
    go_ret
    exact ⟨ret_int E.out.symm, rfl⟩
  · have E := Lib.hid (N3.out h1 h2)
    go_enter Tryz.func39, Tryz.ntmps39
    go_wp2_with (go_at_call 77; refine (isNaN_any _ _).mono ?_; rintro e w' ⟨rfl, rfl⟩)
    go_ret
    exact ⟨ret_int E.out.symm, rfl⟩
theorem isNaNS_any (x : ByteArray) (w : World) : Calls Tryz.prog 78 #[.string x] w fun e w' => e = .returned (.bool false) ∧ w' = w := by
  go_enter Tryz.func78, Tryz.ntmps78
  go_wp2
  go_ret
  exact ⟨ret_bool (by simp), rfl⟩
theorem compareS_any (a b : ByteArray) (w : World) : Calls Tryz.prog 40 #[.string a, .string b] w fun e w' => e = .returned (.int .i64 (cms a b)) ∧ w' = w := by
  have N1 : Hid (Op.bytesLess a.toList b.toList = true → cms a b = -1) := Lib.hid (fun h => if_pos h)
  have N2 : Hid (Op.bytesLess a.toList b.toList = false → (a.toList == b.toList) = false → cms a b = 1) := Lib.hid (fun h k => by unfold cms; rw [if_neg (by rw [h]; decide), if_pos (by rw [h, k]; rfl)])
  have N3 : Hid (Op.bytesLess a.toList b.toList = false → (a.toList == b.toList) = true → cms a b = 0) := Lib.hid (fun h k => by unfold cms; rw [if_neg (by rw [h]; decide), if_neg (by rw [h, k]; decide)])
  generalize cms a b = R at N1 N2 N3 ⊢
  rcases h1 : Op.bytesLess a.toList b.toList with _ | _
  · rcases h2 : (a.toList == b.toList) with _ | _
    · have E := Lib.hid (N2.out h1 h2)
      clear N1 N2 N3
      go_enter Tryz.func40, Tryz.ntmps40
      go_wp2_with (go_at_call 78; refine (isNaNS_any _ _).mono ?_; rintro e w' ⟨rfl, rfl⟩)
      go_ret
      exact ⟨ret_int E.out.symm, rfl⟩
    · have E := Lib.hid (N3.out h1 h2)
      clear N1 N2 N3
      go_enter Tryz.func40, Tryz.ntmps40
      go_wp2_with (go_at_call 78; refine (isNaNS_any _ _).mono ?_; rintro e w' ⟨rfl, rfl⟩)
      go_ret
      exact ⟨ret_int E.out.symm, rfl⟩
  · have E := Lib.hid (N1.out h1)
    clear N1 N2 N3
    go_enter Tryz.func40, Tryz.ntmps40
    go_wp2_with (go_at_call 78; refine (isNaNS_any _ _).mono ?_; rintro e w' ⟨rfl, rfl⟩)
    go_ret
    exact ⟨ret_int E.out.symm, rfl⟩
theorem orL_at : ∀ (l : List Int) (k : Nat), k < l.length → (∀ j, j < k → l.getD j 0 = 0) → ¬ l.getD k 0 = 0 → orL l = l.getD k 0
  | x :: l, 0, _, _, h => by
    have h' : ¬ x = 0 := h
    unfold orL
    rw [if_neg h']
    rfl
  | x :: l, k + 1, hk, hz, h => by
    have h0 : x = 0 := hz 0 (by omega)
    unfold orL
    rw [if_pos h0]
    exact orL_at l k (by simpa using hk) (fun j hj => hz (j + 1) (by omega)) h
theorem orL_end : ∀ (l : List Int), (∀ j, j < l.length → l.getD j 0 = 0) → orL l = 0
  | [], _ => rfl
  | x :: l, hz => by
    have h0 : x = 0 := hz 0 (by simp)
    unfold orL
    rw [if_pos h0]
    exact orL_end l (fun j hj => hz (j + 1) (by simp; omega))
set_option maxRecDepth 100000 in
theorem orL_any (xs : List Int) (b : Nat) (w : World) (hc : ∀ i, i < xs.length → w.cell? ⟨b, i, none⟩ = some (.int .i64 (xs.getD i 0))) (hl : xs.length ≤ 100) :
    Calls Tryz.prog 38 #[.slice (some ⟨b, 0, none⟩) xs.length xs.length] w fun e w' => e = .returned (.int .i64 (orL xs)) ∧ w' = w := by
  have HC := Lib.hid hc
  have NA := Lib.hid (orL_at xs)
  have NE := Lib.hid (orL_end xs)
  generalize orL xs = R at NA NE ⊢
  clear hc
  go_enter Tryz.func38, Tryz.ntmps38
  go_wp2_with fail
  go_loop [5, 8] (fun _ i => ∃ k : Nat, k ≤ xs.length ∧ i = .int .i64 k ∧ ∀ j, j < k → xs.getD j 0 = 0) (fun _ i => xs.length - (intOf i).toNat)
  case atStart => exact ⟨0, by omega, rfl, fun j q => by omega⟩
  case round =>
    obtain ⟨k, hk, rfl, p⟩ := hrel
    have HP := Lib.hid p
    clear p
    by_cases hlt : k < xs.length
    · have c := HC.out k hlt
      have bl := cell_in c
      have NK := Lib.hid (NA.out k hlt HP.out)
      have PK : Hid (xs.getD k 0 = 0 → ∀ j, j < k + 1 → xs.getD j 0 = 0) := Lib.hid (fun z j hj => by
        rcases (by omega : j < k ∨ j = k) with q | q
        · exact HP.out j q
        · rw [q]; exact z)
      generalize xs.getD k 0 = x at c NK PK
      rcases hx : (x != 0) with _ | _
      · have P2 := Lib.hid (PK.out (by simpa using hx))
        go_wp2
        go_round
        case rel => exact ⟨k + 1, by omega, by go_num, P2.out⟩
        case measure => simp [intOf]; omega
      · have E := Lib.hid (NK.out (by simpa using hx))
        go_wp2
        go_ret
        exact ⟨ret_int E.out.symm, rfl⟩
    · have E := Lib.hid (NE.out (fun j hj => HP.out j (by omega)))
      go_wp2
      go_ret
      exact ⟨ret_int E.out.symm, rfl⟩
set_option maxRecDepth 100000 in
set_option maxHeartbeats 8000000 in
theorem order_run (x y : Rq) (w : World) :
    Calls Tryz.prog 13 #[.agg #[.int .i64 x.1, .string x.2.1, .int .i64 x.2.2.1, .int .i64 x.2.2.2.1, .int .i64 x.2.2.2.2], .agg #[.int .i64 y.1, .string y.2.1, .int .i64 y.2.2.1, .int .i64 y.2.2.2.1, .int .i64 y.2.2.2.2]] w fun e w' => e = .returned (.int .i64 (oc x y)) ∧ ∃ q os', w' = Sort.grow (w.drewN q) os' := by
  obtain ⟨W1, hW1⟩ : ∃ W1, W1 = w.alloc (.cells #[.int .i64 x.1, .string x.2.1, .int .i64 x.2.2.1, .int .i64 x.2.2.2.1, .int .i64 x.2.2.2.2] 45) := ⟨_, rfl⟩
  have g0 : QBx W1 w.heap.size x := by rw [hW1]; exact QBx.new w x _
  have z1 : W1.heap.size = w.heap.size + 1 := by rw [hW1, World.size_alloc]
  obtain ⟨W0, hW0⟩ : ∃ W0, W0 = W1.alloc (.cells #[.int .i64 y.1, .string y.2.1, .int .i64 y.2.2.1, .int .i64 y.2.2.2.1, .int .i64 y.2.2.2.2] 45) := ⟨_, rfl⟩
  have g1 : QBx W0 (w.heap.size + 1) y := by rw [hW0, ← z1]; exact QBx.new W1 y _
  have f0 : QBx W0 w.heap.size x := g0.on (by rw [hW0]; exact (Below.refl _ _).alloc (Nat.le_refl _) _)
  have hW : W0 = (w.alloc (.cells #[.int .i64 x.1, .string x.2.1, .int .i64 x.2.2.1, .int .i64 x.2.2.2.1, .int .i64 x.2.2.2.2] 45)).alloc (.cells #[.int .i64 y.1, .string y.2.1, .int .i64 y.2.2.1, .int .i64 y.2.2.2.1, .int .i64 y.2.2.2.2] 45) := by rw [hW0, hW1]
  have HS : Hid (∀ X, Below W0.heap.size W0 X → (X.cell? ⟨w.heap.size, 0, none⟩ = some (.int .i64 x.1) ∧ X.cell? ⟨w.heap.size, 1, none⟩ = some (.string x.2.1) ∧ X.cell? ⟨w.heap.size, 2, none⟩ = some (.int .i64 x.2.2.1) ∧ X.cell? ⟨w.heap.size, 3, none⟩ = some (.int .i64 x.2.2.2.1) ∧ X.cell? ⟨w.heap.size, 4, none⟩ = some (.int .i64 x.2.2.2.2)) ∧ X.cell? ⟨w.heap.size + 1, 0, none⟩ = some (.int .i64 y.1) ∧ X.cell? ⟨w.heap.size + 1, 1, none⟩ = some (.string y.2.1) ∧ X.cell? ⟨w.heap.size + 1, 2, none⟩ = some (.int .i64 y.2.2.1) ∧ X.cell? ⟨w.heap.size + 1, 3, none⟩ = some (.int .i64 y.2.2.2.1) ∧ X.cell? ⟨w.heap.size + 1, 4, none⟩ = some (.int .i64 y.2.2.2.2)) := Lib.hid (fun X q => ⟨f0.on q, g1.on q⟩)
  have HW := Lib.hid hW
  have CT : Hid (oc x y = orL [cmi x.1 y.1, cms x.2.1 y.2.1, cmi x.2.2.1 y.2.2.1, cmi x.2.2.2.1 y.2.2.2.1, cmi x.2.2.2.2 y.2.2.2.2]) := Lib.hid rfl
  generalize oc x y = R at CT ⊢
  clear g0 g1 z1 f0 hW hW0 hW1 W1
  have KO : Hid (∀ X, X.cell? ⟨W0.heap.size, 0, none⟩ = some (.int .i64 (cmi x.1 y.1)) → X.cell? ⟨W0.heap.size, 1, none⟩ = some (.int .i64 (cms x.2.1 y.2.1)) → X.cell? ⟨W0.heap.size, 2, none⟩ = some (.int .i64 (cmi x.2.2.1 y.2.2.1)) → X.cell? ⟨W0.heap.size, 3, none⟩ = some (.int .i64 (cmi x.2.2.2.1 y.2.2.2.1)) → X.cell? ⟨W0.heap.size, 4, none⟩ = some (.int .i64 (cmi x.2.2.2.2 y.2.2.2.2)) →
      Calls Tryz.prog 38 #[.slice (some ⟨W0.heap.size, 0, none⟩) 5 5] X fun e w' => e = .returned (.int .i64 R) ∧ w' = X) := Lib.hid (fun X h0 h1 h2 h3 h4 => by
    rw [CT.out]
    exact orL_any [cmi x.1 y.1, cms x.2.1 y.2.1, cmi x.2.2.1 y.2.2.1, cmi x.2.2.2.1 y.2.2.2.1, cmi x.2.2.2.2 y.2.2.2.2] W0.heap.size X (fun i hi => by
      have hi' : i < 5 := hi
      rcases (by omega : i = 0 ∨ i = 1 ∨ i = 2 ∨ i = 3 ∨ i = 4) with rfl | rfl | rfl | rfl | rfl
      · exact h0
      · exact h1
      · exact h2
      · exact h3
      · exact h4) (by simp))
  go_enter Tryz.func13, Tryz.ntmps13
  go_upto_region 1 with fail
  rw [← HW.out]
  go_region_held3 (fun X => (X.cell? ⟨w.heap.size, 0, none⟩ = some (.int .i64 x.1) ∧ X.cell? ⟨w.heap.size, 1, none⟩ = some (.string x.2.1) ∧ X.cell? ⟨w.heap.size, 2, none⟩ = some (.int .i64 x.2.2.1) ∧ X.cell? ⟨w.heap.size, 3, none⟩ = some (.int .i64 x.2.2.2.1) ∧ X.cell? ⟨w.heap.size, 4, none⟩ = some (.int .i64 x.2.2.2.2)) ∧ X.cell? ⟨w.heap.size + 1, 0, none⟩ = some (.int .i64 y.1) ∧ X.cell? ⟨w.heap.size + 1, 1, none⟩ = some (.string y.2.1) ∧ X.cell? ⟨w.heap.size + 1, 2, none⟩ = some (.int .i64 y.2.2.1) ∧ X.cell? ⟨w.heap.size + 1, 3, none⟩ = some (.int .i64 y.2.2.2.1) ∧ X.cell? ⟨w.heap.size + 1, 4, none⟩ = some (.int .i64 y.2.2.2.2))
    (first | exact HS.out _ (Below.drew (Below.refl _ W0)) | exact HS.out _ (Below.alloc (Below.drew (Below.refl _ W0)) (Nat.le_refl _) _) | exact HS.out _ (Below.drew (Below.alloc (Below.refl _ W0) (Nat.le_refl _) _)))
    (first
    | (go_at_call 39; refine (compare_any _ _ _).mono ?_; rintro e w' ⟨rfl, hw⟩; replace hw := hw.symm; subst hw)
    | (go_at_call 40; refine (compareS_any _ _ _).mono ?_; rintro e w' ⟨rfl, hw⟩; replace hw := hw.symm; subst hw)
    | (go_at_call 38; refine (KO.out _ (by simp) (by simp) (by simp) (by simp) (by simp)).mono ?_; rintro e w' ⟨rfl, hw⟩; replace hw := hw.symm; subst hw))
  have EW : Hid (∃ q os', (W0.alloc (.cells #[.int .i64 (cmi x.1 y.1), .int .i64 (cms x.2.1 y.2.1), .int .i64 (cmi x.2.2.1 y.2.2.1), .int .i64 (cmi x.2.2.2.1 y.2.2.2.1), .int .i64 (cmi x.2.2.2.2 y.2.2.2.2)] 3)).drew = Sort.grow (w.drewN q) os') := Lib.hid (by
    rw [HW.out]
    refine ⟨1, #[(.cells #[.int .i64 x.1, .string x.2.1, .int .i64 x.2.2.1, .int .i64 x.2.2.2.1, .int .i64 x.2.2.2.2] 45)] ++ (#[(.cells #[.int .i64 y.1, .string y.2.1, .int .i64 y.2.2.1, .int .i64 y.2.2.2.1, .int .i64 y.2.2.2.2] 45)] ++ #[(.cells #[.int .i64 (cmi x.1 y.1), .int .i64 (cms x.2.1 y.2.1), .int .i64 (cmi x.2.2.1 y.2.2.1), .int .i64 (cmi x.2.2.2.1 y.2.2.2.1), .int .i64 (cmi x.2.2.2.2 y.2.2.2.2)] 3)]), ?_⟩
    show (((w.drewN 1).alloc (.cells #[.int .i64 x.1, .string x.2.1, .int .i64 x.2.2.1, .int .i64 x.2.2.2.1, .int .i64 x.2.2.2.2] 45)).alloc (.cells #[.int .i64 y.1, .string y.2.1, .int .i64 y.2.2.1, .int .i64 y.2.2.2.1, .int .i64 y.2.2.2.2] 45)).alloc (.cells #[.int .i64 (cmi x.1 y.1), .int .i64 (cms x.2.1 y.2.1), .int .i64 (cmi x.2.2.1 y.2.2.1), .int .i64 (cmi x.2.2.2.1 y.2.2.2.1), .int .i64 (cmi x.2.2.2.2 y.2.2.2.2)] 3) = _
    rw [Sort.alloc_eq_grow, Sort.alloc_eq_grow, Sort.alloc_eq_grow, Sort.grow_grow, Sort.grow_grow])
  go_wp2
  go_ret
  exact ⟨rfl, EW.out⟩
/-- A ring as it is handed on. -/
abbrev agQ (x : Rq) : Value := .agg #[.int .i64 x.1, .string x.2.1, .int .i64 x.2.2.1, .int .i64 x.2.2.2.1, .int .i64 x.2.2.2.2]
theorem order_any (x y : Rq) (w : World) : Calls Tryz.prog 13 #[agQ x, agQ y] w fun e w' => e = .returned (.int .i64 (oc x y)) ∧ Below w.heap.size w w' :=
  (order_run x y w).mono fun e w' ⟨he, q, os', hw⟩ => ⟨he, by
    rw [hw]
    exact ⟨rfl, rfl, rfl, by simp [Sort.grow], fun k hk => by
      show (w.heap ++ os')[k]? = _
      rw [Array.getElem?_append_left hk]⟩⟩
end Go.Proofs.YthdohcjingfpoaaGreatDoor.Qu
namespace Go.Proofs.YthdohcjingfpoaaGreatDoor.Qu
open Go.RowKit

/-- 'vs' laid over a row from a place on. -/
def spl (L : List Value) (o : Nat) (vs : List Value) : List Value := L.take o ++ vs ++ L.drop (o + vs.length)
theorem spl_len {L : List Value} {o : Nat} {vs : List Value} (h : o + vs.length ≤ L.length) : (spl L o vs).length = L.length := by simp [spl]; omega
theorem spl_take {L : List Value} {o : Nat} {vs : List Value} (h : o + vs.length ≤ L.length) : (spl L o vs).take (o + vs.length) = L.take o ++ vs := by
  unfold spl
  rw [List.take_append_of_le_length (by simp; omega), List.take_of_length_le (by simp; omega)]
/-- What lies below the place is as it was. -/
theorem spl_low {L : List Value} {o k : Nat} {vs : List Value} (h : k ≤ o) (hl : o ≤ L.length) : (spl L o vs).take k = L.take k := by
  unfold spl
  rw [List.append_assoc, List.take_append_of_le_length (by simp; omega), List.take_take, Nat.min_eq_left h]
/-- A row of rings lies whole in a block. -/
def Lies (w : World) (g : Nat) (L : List Value) : Prop := w.heap[g]? = some (.cells L.toArray 45 (0, 0))
theorem Lies.lt {w : World} {g : Nat} {L : List Value} (h : Lies w g L) : g < w.heap.size := by
  rcases Nat.lt_or_ge g w.heap.size with q | q
  · exact q
  · unfold Lies at h
    rw [Array.getElem?_eq_none q] at h
    cases h
theorem Lies.set {w : World} {g : Nat} {L : List Value} (h : Lies w g L) (N : List Value) : Lies (w.setRow g N.toArray) g N := setRow_heap w g _ _ _ _ h
theorem Lies.cell {w : World} {g : Nat} {L : List Value} (h : Lies w g L) {j : Nat} {u : Value} (hu : L[j]? = some u) : w.cell? ⟨g, j, none⟩ = some u := by
  unfold Lies at h
  simp [World.cell?, h, hu]
theorem Lies.frozen {w : World} {g : Nat} {L : List Value} (h : Lies w g L) (j : Nat) : w.frozen? ⟨g, j, none⟩ = false := by
  unfold Lies at h
  simp [World.frozen?, h]
theorem size_setRow (w : World) (g : Nat) (c : Array Value) : (w.setRow g c).heap.size = w.heap.size := by simp [World.setRow]
theorem size_ring : ∀ W : World, (sizeOf 45).run Tryz.prog W = .ok 5 W := fun _ => by kernel_rfl
theorem info_ring : ∃ i, Tryz.prog.info? 45 = some i ∧ i.zero = some (.agg #[.int .i64 0, .string ⟨#[]⟩, .int .i64 0, .int .i64 0, .int .i64 0]) ∧ i.size = 5 ∧ i.bytes = 48 :=
  info_parts (by kernel_rfl)
/-- copy into a row of rings. -/
theorem copy_run {w : World} {g : Nat} {L : List Value} (h : Lies w g L) (ty : TypeId) (o dLen dCap : Nat) (a : Addr) (sLen sCap : Nat) (cs : List Value) (hn : cs.length = Nat.min sLen dLen * 5)
    (hsrc : ∀ j v, cs[j]? = some v → w.cell? (a.add j) = some v) (hfit : o + cs.length ≤ L.length) (h1 : ∀ v ∈ cs, v.oneCell' = true) :
    (Builtin.copy_ #[41, 41] ty #[.slice (some ⟨g, o, none⟩) dLen dCap, .slice (some a) sLen sCap]).run Tryz.prog w = .ok (goInt (Nat.min sLen dLen)) (w.setRow g (spl L o cs).toArray) := by
  have hl := run_loadCells_list (P := Tryz.prog) w a cs hsrc
  have hst := run_storeCells_at Tryz.prog g o 45 cs 0 L.toArray w h (by simpa using hfit) h1
  rw [hn] at hl
  simp only [Nat.add_zero] at hst
  simp [Builtin.copy_, run_underlying Tryz.underlying41, Builtin.lenOf, Builtin.firstCells, hl, hst, spl]
/-- append into a row of rings that has room. -/
theorem app_run {w : World} {g : Nat} {L : List Value} (h : Lies w g L) (ty : TypeId) (n cap : Nat) (a : Addr) (m c : Nat) (news : List Value) (hl : news.length = m * 5) (hnews : ∀ j u, news[j]? = some u → w.cell? (a.add j) = some u) (h1 : ∀ u ∈ news, u.oneCell' = true)
    (hroom : n + m ≤ cap) (hfit : n * 5 + news.length ≤ L.length) :
    (Builtin.append_ #[41, 41] ty #[.slice (some ⟨g, 0, none⟩) n cap, .slice (some a) m c]).run Tryz.prog w = .ok (.slice (some ⟨g, 0, none⟩) (n + m) cap) (w.setRow g (spl L (n * 5) news).toArray) := by
  obtain ⟨i, hi, hz0, hz1, hz2⟩ := info_ring
  have := run_append_room (P := Tryz.prog) w 41 ty 45 i Tryz.underlying41 hi g n cap L.toArray h a m c news (by rw [hz1]; exact hl) hnews h1 hroom (by rw [hz1]; simpa using hfit)
  rw [hz1] at this
  simpa [spl] using this
/-- clear, at rings. -/
def zr5 : List Value := [.int .i64 0, .string ⟨#[]⟩, .int .i64 0, .int .i64 0, .int .i64 0]
def zrs (n : Nat) : List Value := (List.range (n * 5)).map (fun i => zr5.getD (i % 5) undef)
theorem zrs_len (n : Nat) : (zrs n).length = n * 5 := by simp [zrs]
theorem zrs_one (n : Nat) : ∀ v ∈ zrs n, v.oneCell' = true := fun v hv' => by
  unfold zrs at hv'
  obtain ⟨i, _, rfl⟩ := List.mem_map.1 hv'
  have : i % 5 < 5 := Nat.mod_lt _ (by decide)
  rcases (by omega : i % 5 = 0 ∨ i % 5 = 1 ∨ i % 5 = 2 ∨ i % 5 = 3 ∨ i % 5 = 4) with q | q | q | q | q <;> rw [q] <;> rfl
theorem zero_cells (n : Nat) : (Builtin.zeroCells (Value.agg zr5.toArray).cells n).toList = zrs n := by
  show (Builtin.zeroCells zr5.toArray n).toList = _
  simp only [Builtin.zeroCells, Array.toList_map, zrs]
  apply List.ext_getElem
  · simp [zr5]
  · intro i h1 h2
    have : i % 5 < 5 := Nat.mod_lt _ (by decide)
    rcases (by omega : i % 5 = 0 ∨ i % 5 = 1 ∨ i % 5 = 2 ∨ i % 5 = 3 ∨ i % 5 = 4) with q | q | q | q | q <;> simp [q, zr5]
theorem clear_run {w : World} {g : Nat} {L : List Value} (h : Lies w g L) (ty : TypeId) (o n c : Nat) (hn : 0 < n) (hfit : o + n * 5 ≤ L.length) :
    (Builtin.clear_ #[41] ty #[.slice (some ⟨g, o, none⟩) n c]).run Tryz.prog w = .ok (.tuple #[]) (w.setRow g (spl L o (zrs n)).toArray) := by
  have hv : ∀ w, (zeroValue 45).run Tryz.prog w = .ok (.agg zr5.toArray) w := fun _ => by kernel_rfl
  have hst := run_storeCells_at Tryz.prog g o 45 (zrs n) 0 L.toArray w h (by simpa [zrs_len] using hfit) (zrs_one n)
  simp only [Nat.add_zero] at hst
  obtain ⟨m, rfl⟩ : ∃ m, n = m + 1 := ⟨n - 1, by omega⟩
  simp [Builtin.clear_, run_underlying Tryz.underlying41, hv, zero_cells, hst, spl]
/-- Steps of a region that draws, where the run is known. -/
theorem step_call2 {ops : Array Oper} {o : Oper} {a : Act} {w : World} {K : Act → World → Prop} {Q : Exit → Act → World → Prop} {E : Prop}
    (hg : o.guard = none) (d x : Operand) (dT sT : TypeId) (hop : o.op = Op.call { callee := Callee.builtin Builtin.copy, args := #[d, x], argTypes := #[dT, sT] })
    (v u : Value) (hd : a.eval d = v) (hx : a.eval x = u) {v' : Value} {w' : World} (hr : (Builtin.copy_ #[dT, sT] o.type #[v, u]).run Tryz.prog w = .ok v' w') (hK : K (a.put o.dst v') w') :
    if Region.wanted o (yielded ops a.tmps) = true then Oper.wp Tryz.prog o a w K Q else E := by
  have hw : Region.wanted o (yielded ops a.tmps) = true := by simp [Region.wanted, hg]
  rw [if_pos hw]
  unfold Oper.wp
  simp [execOp, hop, resolve, invoke, builtin, hd, hx, hr, Result.andThen]
  exact hK
theorem step_app2 {ops : Array Oper} {o : Oper} {a : Act} {w : World} {K : Act → World → Prop} {Q : Exit → Act → World → Prop} {E : Prop}
    (hg : o.guard = none) (d x : Operand) (dT sT : TypeId) (hop : o.op = Op.call { callee := Callee.builtin Builtin.append, args := #[d, x], argTypes := #[dT, sT] })
    (v u : Value) (hd : a.eval d = v) (hx : a.eval x = u) {v' : Value} {w' : World} (hr : (Builtin.append_ #[dT, sT] o.type #[v, u]).run Tryz.prog w = .ok v' w') (hK : K (a.put o.dst v') w') :
    if Region.wanted o (yielded ops a.tmps) = true then Oper.wp Tryz.prog o a w K Q else E := by
  have hw : Region.wanted o (yielded ops a.tmps) = true := by simp [Region.wanted, hg]
  rw [if_pos hw]
  unfold Oper.wp
  simp [execOp, hop, resolve, invoke, builtin, hd, hx, hr, Result.andThen]
  exact hK
theorem wpl_copy (w : World) {ops : Array Oper} {rest : List Oper} {o : Oper} {a : Act} {Q : Exit → Act → World → Prop} (hgd : o.guard = none) (d s : Operand) (t t' : TypeId)
    (ho : o.op = .call { callee := .builtin .copy, args := #[d, s], argTypes := #[t, t'] }) (v u : Value) (hd : a.eval d = v) (hs : a.eval s = u) {v' : Value} {w' : World}
    (hr : (Builtin.copy_ #[t, t'] o.type #[v, u]).run Tryz.prog w = .ok v' w') (h : wpList Tryz.prog ops Q rest (a.put o.dst v') w') : wpList Tryz.prog ops Q (o :: rest) a w :=
  wpList_plain hgd fun _ hK => by
    unfold Oper.wp execOp
    simp only [ho, resolve, invoke, builtin, Sem.run_bind, Sem.run_pure, Result.andThen_ok, List.map_toArray, List.map_cons, List.map_nil, hd, hs, hr]
    exact hK _ _ h
theorem wpl_app (w : World) {ops : Array Oper} {rest : List Oper} {o : Oper} {a : Act} {Q : Exit → Act → World → Prop} (hgd : o.guard = none) (d s : Operand) (t t' : TypeId)
    (ho : o.op = .call { callee := .builtin .append, args := #[d, s], argTypes := #[t, t'] }) (v u : Value) (hd : a.eval d = v) (hs : a.eval s = u) {v' : Value} {w' : World}
    (hr : (Builtin.append_ #[t, t'] o.type #[v, u]).run Tryz.prog w = .ok v' w') (h : wpList Tryz.prog ops Q rest (a.put o.dst v') w') : wpList Tryz.prog ops Q (o :: rest) a w :=
  wpList_plain hgd fun _ hK => by
    unfold Oper.wp execOp
    simp only [ho, resolve, invoke, builtin, Sem.run_bind, Sem.run_pure, Result.andThen_ok, List.map_toArray, List.map_cons, List.map_nil, hd, hs, hr]
    exact hK _ _ h
theorem flatQ_len : ∀ M : List Rq, (M.flatMap encQ).length = M.length * 5
  | [] => by simp
  | a :: r => by rw [List.flatMap_cons, List.length_append, encQ_len, flatQ_len r, List.length_cons, Nat.succ_mul]; omega
theorem flatQ_one (M : List Rq) : ∀ u ∈ M.flatMap encQ, u.oneCell' = true := fun u hu => by
  obtain ⟨x, _, hx⟩ := List.mem_flatMap.1 hu
  exact encQ_one x u hx
theorem flatQ_take : ∀ (M : List Rq) (p : Nat), (M.flatMap encQ).take (p * 5) = (M.take p).flatMap encQ
  | [], p => by simp
  | a :: r, 0 => by simp
  | a :: r, p + 1 => by
    rw [List.take_succ_cons, List.flatMap_cons, List.flatMap_cons, List.take_append, encQ_len, List.take_of_length_le (by rw [encQ_len]; omega), show (p + 1) * 5 - 5 = p * 5 by omega, flatQ_take r p]
theorem flatQ_drop : ∀ (M : List Rq) (p : Nat), (M.flatMap encQ).drop (p * 5) = (M.drop p).flatMap encQ
  | [], p => by simp
  | a :: r, 0 => by simp
  | a :: r, p + 1 => by
    rw [List.drop_succ_cons, List.flatMap_cons, List.drop_append, encQ_len, List.drop_eq_nil_of_le (by rw [encQ_len]; omega), show (p + 1) * 5 - 5 = p * 5 by omega, flatQ_drop r p]
    simp
theorem flatQ_at : ∀ (M : List Rq) (i c : Nat), i < M.length → c < 5 → (M.flatMap encQ)[i * 5 + c]? = (encQ (M.getD i zq))[c]?
  | [], i, c, h, _ => by simp at h
  | a :: r, 0, c, _, hc => by
    rw [List.flatMap_cons, List.getElem?_append_left (by rw [encQ_len]; omega)]
    simp
  | a :: r, i + 1, c, h, hc => by
    rw [List.flatMap_cons, List.getElem?_append_right (by rw [encQ_len]; omega), encQ_len, show (i + 1) * 5 + c - 5 = i * 5 + c by omega, flatQ_at r i c (by simpa using h) hc]
    simp
/-- A row of rings that a call owns. -/
abbrev Ow (w : World) (n0 : Nat) (v : Value) (M : List Rq) : Prop := w.ownsRow n0 45 5 v M.length (M.flatMap encQ)
/-- It is none, or lies whole in a block. -/
theorem Ow.open {w : World} {n0 : Nat} {v : Value} {M : List Rq} (h : Ow w n0 v M) : (v = .slice none 0 0 ∧ M = []) ∨ ∃ g cap L, v = .slice (some ⟨g, 0, none⟩) M.length cap ∧ n0 ≤ g ∧ Lies w g L ∧ M.length ≤ cap ∧ cap ≤ 9223372036854775807 ∧ L.length = cap * 5 ∧ L.take (M.length * 5) = M.flatMap encQ := by
  rcases h.2 with ⟨hv, h0⟩ | ⟨g, cap, cur, hv, hb, hg, hn, hm, hs, ht⟩
  · exact Or.inl ⟨hv, List.eq_nil_of_length_eq_zero h0⟩
  · exact Or.inr ⟨g, cap, cur.toList, hv, hb, by simpa [Lies] using hg, hn, by unfold maxLen at hm; omega, by simpa using hs, ht⟩
theorem Ow.make {w : World} {n0 g cap : Nat} {M : List Rq} {L : List Value} (hb : n0 ≤ g) (h : Lies w g L) (hn : M.length ≤ cap) (hm : cap ≤ 9223372036854775807) (hl : L.length = cap * 5) (ht : L.take (M.length * 5) = M.flatMap encQ) : Ow w n0 (.slice (some ⟨g, 0, none⟩) M.length cap) M :=
  ⟨flatQ_len M, .inr ⟨g, cap, L.toArray, rfl, hb, h, hn, by unfold maxLen; omega, by simpa using hl, by simpa using ht⟩⟩
theorem grown_setRow (w : World) (g : Nat) (c : Array Value) : w.grownBy (w.setRow g c) (some g) := ⟨rfl, rfl, rfl, by simp [World.setRow], fun k _ hk => setRow_other w g k c (fun e => hk (by rw [e]))⟩
theorem grown_drew {w w' : World} {r : Option Nat} (h : w.grownBy w' r) : w.grownBy w'.drew r := ⟨h.os, h.tape, h.output, h.size, h.block⟩
theorem grown_of_drew {w w' : World} {r : Option Nat} (h : w.drew.grownBy w' r) : w.grownBy w' r := ⟨h.os, h.tape, h.output, h.size, h.block⟩
theorem grown_tr {a b c : World} {r : Option Nat} (h : a.grownBy b r) (k : b.grownBy c r) : a.grownBy c r :=
  ⟨k.os.trans h.os, k.tape.trans h.tape, k.output.trans h.output, Nat.le_trans h.size k.size, fun j hj hr => (k.block j (Nat.lt_of_lt_of_le hj h.size) hr).trans (h.block j hj hr)⟩
theorem grown_refl (w : World) (r : Option Nat) : w.grownBy w r := ⟨rfl, rfl, rfl, Nat.le_refl _, fun _ _ _ => rfl⟩
theorem grown_below {a b : World} (h : Below a.heap.size a b) (r : Option Nat) : a.grownBy b r := ⟨h.os, h.tape, h.output, h.size, fun k hk _ => h.block k hk⟩
end Go.Proofs.YthdohcjingfpoaaGreatDoor.Qu
namespace Go.Proofs.YthdohcjingfpoaaGreatDoor.Qu
open Go.RowKit

set_option maxHeartbeats 4000000 in
set_option maxRecDepth 1000000 in
theorem delete_any (M : List Rq) (p n0 : Nat) (v : Value) (w : World) (ho : Ow w n0 v M) (hp : p < M.length) :
    Calls Tryz.prog 72 #[v, .int .i64 p, .int .i64 (p + 1 : Nat)] w fun e w' => ∃ v', e = .returned v' ∧ Ow w' n0 v' (del M p) ∧ v'.ownBlock = v.ownBlock ∧ w.grownBy w' v.ownBlock := by
  rcases ho.open with ⟨_, h0⟩ | ⟨g, cap, L, rfl, hb, hL, hnc, hm, hl, ht⟩
  · rw [h0] at hp; simp at hp
  obtain ⟨n, hn⟩ : ∃ n, n = M.length := ⟨_, rfl⟩
  rw [← hn] at hnc ht hp ⊢
  -- what is moved
  obtain ⟨news, hnews⟩ : ∃ news, news = (M.drop (p + 1)).flatMap encQ := ⟨_, rfl⟩
  have hlen : news.length = (n - (p + 1)) * 5 := by rw [hnews, flatQ_len, List.length_drop, hn]
  have hone : ∀ u ∈ news, u.oneCell' = true := by rw [hnews]; exact flatQ_one _
  have hget : ∀ t u, news[t]? = some u → L[(p + 1) * 5 + t]? = some u := fun t u hu => by
    have ht' : t < news.length := (List.getElem?_eq_some_iff.1 hu).1
    have e : L[(p + 1) * 5 + t]? = (L.take (n * 5))[(p + 1) * 5 + t]? := by
      rw [List.getElem?_take, if_pos (by omega)]
    rw [e, ht, ← List.getElem?_drop, flatQ_drop, ← hnews]
    exact hu
  obtain ⟨A, hA, hsrc⟩ : ∃ A : Addr, (if cap = p + 1 then some (⟨g, 0, none⟩ : Addr) else some ⟨g, (p + 1) * 5, none⟩) = some A ∧ Hid (∀ W, Lies W g L → ∀ t u, news[t]? = some u → W.cell? (A.add t) = some u) := by
    by_cases h : cap = p + 1
    · refine ⟨⟨g, 0, none⟩, by simp [h], fun W _ t u hu => ?_⟩
      have h0 : news.length = 0 := by rw [hlen]; omega
      rw [List.length_eq_zero_iff.1 h0] at hu
      simp at hu
    · refine ⟨⟨g, (p + 1) * 5, none⟩, by simp [h], fun W hW t u hu => ?_⟩
      rw [Addr.add_mid]
      exact hW.cell (hget t u hu)
  obtain ⟨L1, hL1⟩ : ∃ L1, L1 = spl L (p * 5) news := ⟨_, rfl⟩
  have l1 : L1.length = cap * 5 := by rw [hL1, spl_len (by omega)]; exact hl
  have AR : Hid (∀ W ty, Lies W g L → (Builtin.append_ #[41, 41] ty #[.slice (some ⟨g, 0, none⟩) p cap, .slice (some A) (n - (p + 1)) (cap - (p + 1))]).run Tryz.prog W = .ok (.slice (some ⟨g, 0, none⟩) (p + (n - (p + 1))) cap) (W.setRow g L1.toArray)) :=
    Lib.hid (fun W ty hW => by rw [hL1]; exact app_run hW ty p cap A (n - (p + 1)) (cap - (p + 1)) news hlen (hsrc.out W hW) hone (by omega) (by omega))
  obtain ⟨k, hk⟩ : ∃ k, n = k + 1 := ⟨n - 1, by omega⟩
  have e1 : p + (n - (p + 1)) = k := by omega
  obtain ⟨L2, hL2⟩ : ∃ L2, L2 = spl L1 (k * 5) (zrs 1) := ⟨_, rfl⟩
  have CR : Hid (∀ W ty c, Lies W g L1 → (Builtin.clear_ #[41] ty #[.slice (some ⟨g, k * 5, none⟩) 1 c]).run Tryz.prog W = .ok (.tuple #[]) (W.setRow g L2.toArray)) :=
    Lib.hid (fun W ty c hW => by rw [hL2]; exact clear_run hW ty (k * 5) 1 c (by omega) (by omega))
  obtain ⟨W1, hW1⟩ : ∃ W1, W1 = w.drew.setRow g L1.toArray := ⟨_, rfl⟩
  have AW : Hid (∀ ty, (Builtin.append_ #[41, 41] ty #[.slice (some ⟨g, 0, none⟩) p cap, .slice (some A) (n - (p + 1)) (cap - (p + 1))]).run Tryz.prog w.drew = .ok (.slice (some ⟨g, 0, none⟩) k cap) W1) :=
    Lib.hid (fun ty => by rw [hW1, ← e1]; exact AR.out w.drew ty hL)
  have hW1L : Lies W1 g L1 := by rw [hW1]; exact Lies.set (w := w.drew) hL L1
  have hcl : ∀ ty c, (Builtin.clear_ #[41] ty #[.slice (some ⟨g, k * 5, none⟩) 1 c]).run Tryz.prog W1 = .ok (.tuple #[]) (W1.setRow g L2.toArray) := fun ty c => CR.out W1 ty c hW1L
  have FIN : Hid (Ow (W1.setRow g L2.toArray) n0 (.slice (some ⟨g, 0, none⟩) k cap) (del M p) ∧ w.grownBy (W1.setRow g L2.toArray) (some g)) := Lib.hid (by
    have dl : (del M p).length = k := by rw [del_len (by omega)]; omega
    refine ⟨?_, grown_tr (grown_of_drew (by rw [hW1]; exact grown_setRow _ _ _)) (grown_setRow _ _ _)⟩
    have q := Ow.make (M := del M p) (cap := cap) hb (hW1L.set L2) (by omega) hm (by rw [hL2, spl_len (by rw [l1, zrs_len]; omega)]; exact l1) (by
      rw [dl, hL2, spl_low (Nat.le_refl _) (by omega), hL1]
      have e2 : k * 5 = p * 5 + news.length := by rw [hlen]; omega
      rw [e2, spl_take (by omega)]
      have e3 : L.take (p * 5) = (M.take p).flatMap encQ := by
        rw [← flatQ_take, ← ht, List.take_take, Nat.min_eq_left (by omega)]
      rw [e3, hnews, ← List.flatMap_append]
      rfl)
    rw [dl] at q
    exact q)
  have hpc : p ≤ cap := by omega
  have hpc1 : p + 1 ≤ cap := by omega
  have q1 : (0 : Int) ≤ (p : Int) + 1 := by omega
  have q2 : (p : Int) + 1 ≤ (n : Int) := by omega
  have q3 : ¬ cap = k := by omega
  have q4 : k ≤ n := by omega
  have q5 : n - k = 1 := by omega
  clear hL ht hn hnews hL1 hL2 hget hsrc hone hlen ho l1 hl AR CR e1 hW1 hW1L hk
  go_enter Tryz.func72, Tryz.ntmps72
  go_wp2_with fail
  go_region_law (refine step_app2 rfl (.tmp 22) (.tmp 25) 41 41 rfl _ _ (by simp [Act.eval, Act.put]) (by simp [Act.eval, Act.put]) (AW.out _) ?_)
  go_wp2
  go_ret
  exact ⟨_, rfl, FIN.out.1, rfl, FIN.out.2⟩
end Go.Proofs.YthdohcjingfpoaaGreatDoor.Qu
