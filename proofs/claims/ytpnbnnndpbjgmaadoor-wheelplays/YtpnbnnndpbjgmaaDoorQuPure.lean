/-
  What is proved here: plain facts on rings by their order: how two texts and two rings stand, that the order parts whatever two that are not the same, and what is put into or taken out of a rising list; no function of the program is walked.
-/
import Derived.Test.YtpnbnnndpbjgmaaDoorLow
namespace Go.Proofs.YtpnbnnndpbjgmaaDoor.Qu
open Go.RowKit

/-- A ring: At, Name, Which, Alarm, Turn. -/
abbrev Rq := Int × ByteArray × Int × Int × Int
instance : Inhabited ByteArray := ⟨⟨#[]⟩⟩
def encQ (x : Rq) : List Value := [.int .i64 x.1, .string x.2.1, .int .i64 x.2.2.1, .int .i64 x.2.2.2.1, .int .i64 x.2.2.2.2]
theorem encQ_len (x : Rq) : (encQ x).length = 5 := rfl
theorem encQ_one (x : Rq) : ∀ u ∈ encQ x, u.oneCell' = true := by
  intro u hu
  simp only [encQ, List.mem_cons, List.not_mem_nil, or_false] at hu
  rcases hu with rfl | rfl | rfl | rfl | rfl <;> rfl
/-- The ring that is none. -/
def zq : Rq := (0, ⟨#[]⟩, 0, 0, 0)
/-- How two numbers stand. -/
def cmi (a b : Int) : Int := if a < b then -1 else if b < a then 1 else 0
/-- How two texts stand. -/
def cms (a b : ByteArray) : Int := if Op.bytesLess a.toList b.toList = true then -1 else if (Op.bytesLess a.toList b.toList || a.toList == b.toList) = false then 1 else 0
/-- The first of a list that is not 0, or 0. -/
def orL : List Int → Int
  | [] => 0
  | x :: l => if x = 0 then orL l else x
/-- How two rings stand. -/
def oc (x y : Rq) : Int := orL [cmi x.1 y.1, cms x.2.1 y.2.1, cmi x.2.2.1 y.2.2.1, cmi x.2.2.2.1 y.2.2.2.1, cmi x.2.2.2.2 y.2.2.2.2]

/-- A way to hold two things against one another. -/
structure Cm {α : Type} (f : α → α → Int) : Prop where
  eq : ∀ x y, f x y = 0 ↔ x = y
  anti : ∀ x y, f x y < 0 ↔ 0 < f y x
  tr : ∀ x y z, f x y < 0 → f y z < 0 → f x z < 0
theorem cmi_cm : Cm cmi where
  eq x y := by unfold cmi; split <;> (try split) <;> omega
  anti x y := by unfold cmi; split <;> (try split) <;> (try split) <;> omega
  tr x y z := by unfold cmi; split <;> (try split) <;> (try split) <;> (try split) <;> omega
theorem less_self : ∀ l : List UInt8, Op.bytesLess l l = false
  | [] => rfl
  | a :: l => by
    have ih := less_self l
    simp [Op.bytesLess, ih]
theorem less_tr : ∀ a b c : List UInt8, Op.bytesLess a b = true → Op.bytesLess b c = true → Op.bytesLess a c = true
  | _, [], _, h, _ => by cases ‹List UInt8› <;> simp [Op.bytesLess] at h
  | _, _ :: _, [], _, h => by simp [Op.bytesLess] at h
  | [], _ :: _, _ :: _, _, _ => by simp [Op.bytesLess]
  | x :: a, y :: b, z :: c, h, k => by
    simp only [Op.bytesLess, Bool.or_eq_true, decide_eq_true_eq, Bool.and_eq_true, beq_iff_eq] at h k ⊢
    rcases h with h | ⟨rfl, h⟩
    · rcases k with k | ⟨rfl, k⟩
      · exact Or.inl (UInt8.lt_trans h k)
      · exact Or.inl h
    · rcases k with k | ⟨rfl, k⟩
      · exact Or.inl k
      · exact Or.inr ⟨rfl, less_tr a b c h k⟩
theorem less_tot : ∀ a b : List UInt8, Op.bytesLess a b = false → Op.bytesLess b a = false → a = b
  | [], [], _, _ => rfl
  | [], _ :: _, h, _ => by simp [Op.bytesLess] at h
  | _ :: _, [], _, h => by simp [Op.bytesLess] at h
  | x :: a, y :: b, h, k => by
    simp only [Op.bytesLess, Bool.or_eq_false_iff, decide_eq_false_iff_not, Bool.and_eq_false_imp, beq_iff_eq] at h k
    have e : x = y := UInt8.le_antisymm (UInt8.not_lt.1 k.1) (UInt8.not_lt.1 h.1)
    subst e
    rw [less_tot a b (h.2 rfl) (k.2 rfl)]
theorem less_asym {a b : List UInt8} (h : Op.bytesLess a b = true) : Op.bytesLess b a = false := by
  rcases k : Op.bytesLess b a with _ | _
  · rfl
  · have := less_tr _ _ _ h k
    rw [less_self] at this
    cases this
theorem toList_inj {a b : ByteArray} (h : a.toList = b.toList) : a = b := by
  rw [ByteArray.toList_eq, ByteArray.toList_eq] at h
  apply ByteArray.ext
  have := congrArg List.toArray h
  simpa using this
theorem cms_neg (a b : ByteArray) : cms a b < 0 ↔ Op.bytesLess a.toList b.toList = true := by
  unfold cms
  split
  · rename_i h; simp [h]
  · rename_i h; split <;> simp [h]
theorem cms_zero (a b : ByteArray) : cms a b = 0 ↔ a = b := by
  constructor
  · intro h
    unfold cms at h
    split at h
    · cases h
    · split at h
      · cases h
      · rename_i h1 h2
        apply toList_inj
        rw [Bool.not_eq_true] at h1
        rw [h1] at h2
        simpa using h2
  · rintro rfl
    unfold cms
    rw [less_self]
    simp
theorem cms_pos (a b : ByteArray) : 0 < cms a b ↔ Op.bytesLess b.toList a.toList = true := by
  constructor
  · intro h
    rcases k : Op.bytesLess b.toList a.toList with _ | _
    · exfalso
      rcases k2 : Op.bytesLess a.toList b.toList with _ | _
      · have := (cms_zero a b).2 (toList_inj (less_tot _ _ k2 k))
        omega
      · have := (cms_neg a b).2 k2
        omega
    · rfl
  · intro h
    have h1 : ¬ cms a b < 0 := fun q => by
      rw [cms_neg] at q
      rw [less_asym h] at q
      cases q
    have h2 : ¬ cms a b = 0 := fun q => by
      rw [cms_zero] at q
      rw [q, less_self] at h
      cases h
    omega
theorem cms_cm : Cm cms where
  eq := cms_zero
  anti x y := by rw [cms_neg, cms_pos]
  tr x y z h k := by rw [cms_neg] at *; exact less_tr _ _ _ h k
/-- First by one thing, then by another. -/
def two {α β : Type} (f : α → α → Int) (g : β → β → Int) (x y : α × β) : Int := if f x.1 y.1 = 0 then g x.2 y.2 else f x.1 y.1
theorem two_cm {α β : Type} {f : α → α → Int} {g : β → β → Int} (hf : Cm f) (hg : Cm g) : Cm (two f g) where
  eq x y := by
    unfold two
    by_cases h : f x.1 y.1 = 0
    · rw [if_pos h, hg.eq]
      have e := (hf.eq _ _).1 h
      exact ⟨fun q => Prod.ext e q, fun q => by rw [q]⟩
    · rw [if_neg h]
      exact ⟨fun q => absurd q h, fun q => absurd ((hf.eq _ _).2 (by rw [q])) h⟩
  anti x y := by
    unfold two
    by_cases h : f x.1 y.1 = 0
    · have h2 : f y.1 x.1 = 0 := (hf.eq _ _).2 ((hf.eq _ _).1 h).symm
      rw [if_pos h, if_pos h2]
      exact hg.anti _ _
    · have h2 : ¬ f y.1 x.1 = 0 := fun q => h ((hf.eq _ _).2 ((hf.eq _ _).1 q).symm)
      rw [if_neg h, if_neg h2]
      exact hf.anti _ _
  tr x y z h k := by
    unfold two at *
    by_cases h1 : f x.1 y.1 = 0
    · have e := (hf.eq _ _).1 h1
      rw [if_pos h1] at h
      rw [e]
      by_cases h2 : f y.1 z.1 = 0
      · rw [if_pos h2] at k ⊢
        exact hg.tr _ _ _ h k
      · rw [if_neg h2] at k ⊢
        exact k
    · rw [if_neg h1] at h
      by_cases h2 : f y.1 z.1 = 0
      · have e := (hf.eq _ _).1 h2
        rw [← e, if_neg h1]
        exact h
      · rw [if_neg h2] at k
        have q := hf.tr _ _ _ h k
        rw [if_neg (by omega)]
        exact q
theorem oc_two (x y : Rq) : oc x y = two cmi (two cms (two cmi (two cmi cmi))) x y := by
  unfold oc two
  simp only [orL]
  split <;> (try split) <;> (try split) <;> (try split) <;> (try split) <;> simp_all
theorem oc_cm : Cm oc := by
  have h : oc = two cmi (two cms (two cmi (two cmi cmi))) := by funext x y; exact oc_two x y
  rw [h]
  exact two_cm cmi_cm (two_cm cms_cm (two_cm cmi_cm (two_cm cmi_cm cmi_cm)))
theorem oc_self (x : Rq) : oc x x = 0 := (oc_cm.eq x x).2 rfl

/-- Rising. -/
def Rs (M : List Rq) : Prop := M.Pairwise (fun x y => oc x y < 0)
theorem Rs.nil : Rs [] := List.Pairwise.nil
theorem rs_at {M : List Rq} (h : Rs M) {i j : Nat} (hij : i < j) (hj : j < M.length) : oc (M.getD i zq) (M.getD j zq) < 0 := by
  have := (List.pairwise_iff_getElem.1 h) i j (by omega) hj hij
  rw [List.getD_eq_getElem?_getD, List.getD_eq_getElem?_getD, List.getElem?_eq_getElem hj, List.getElem?_eq_getElem (by omega : i < M.length)]
  exact this
/-- Where a ring is, or would be. -/
structure Fnd (M : List Rq) (r : Rq) (p : Nat) : Prop where
  le : p ≤ M.length
  lo : ∀ a, a < p → oc (M.getD a zq) r < 0
  hi : ∀ a, p ≤ a → a < M.length → 0 ≤ oc (M.getD a zq) r
theorem getD_mem {M : List Rq} {a : Nat} (h : a < M.length) : M.getD a zq ∈ M := by
  rw [List.getD_eq_getElem?_getD, List.getElem?_eq_getElem h]
  exact List.getElem_mem h
theorem mem_getD {M : List Rq} {x : Rq} (h : x ∈ M) : ∃ a, a < M.length ∧ M.getD a zq = x := by
  obtain ⟨a, ha, e⟩ := List.getElem_of_mem h
  exact ⟨a, ha, by rw [List.getD_eq_getElem?_getD, List.getElem?_eq_getElem ha]; exact e⟩
/-- It is there just where it stands at its place. -/
theorem Fnd.there {M : List Rq} {r : Rq} {p : Nat} (h : Fnd M r p) (hM : Rs M) : r ∈ M ↔ p < M.length ∧ oc (M.getD p zq) r = 0 := by
  constructor
  · intro hr
    obtain ⟨a, ha, e⟩ := mem_getD hr
    have h1 : ¬ a < p := fun q => by have := h.lo a q; rw [e, oc_self] at this; omega
    rcases (by omega : a = p ∨ p < a) with q | q
    · subst q; exact ⟨ha, by rw [e]; exact oc_self r⟩
    · have k1 := rs_at hM q ha
      have k2 := h.hi p (Nat.le_refl _) (by omega)
      rw [e] at k1
      omega
  · rintro ⟨h1, h2⟩
    have := (oc_cm.eq _ _).1 h2
    rw [← this]
    exact getD_mem h1
/-- Put where it would be. -/
def ins (M : List Rq) (p : Nat) (r : Rq) : List Rq := M.take p ++ r :: M.drop p
theorem ins_len {M : List Rq} {p : Nat} {r : Rq} (h : p ≤ M.length) : (ins M p r).length = M.length + 1 := by simp [ins]; omega
theorem ins_mem {M : List Rq} {p : Nat} {r z : Rq} : z ∈ ins M p r ↔ z ∈ M ∨ z = r := by
  unfold ins
  have e : z ∈ M ↔ z ∈ M.take p ∨ z ∈ M.drop p := by
    rw [← List.mem_append, List.take_append_drop]
  rw [List.mem_append, List.mem_cons, e]
  constructor
  · rintro (h | h | h)
    · exact Or.inl (Or.inl h)
    · exact Or.inr h
    · exact Or.inl (Or.inr h)
  · rintro ((h | h) | h)
    · exact Or.inl h
    · exact Or.inr (Or.inr h)
    · exact Or.inr (Or.inl h)
theorem ins_rs {M : List Rq} {p : Nat} {r : Rq} (h : Fnd M r p) (hM : Rs M) (hr : r ∉ M) : Rs (ins M p r) := by
  unfold ins Rs
  rw [List.pairwise_append]
  refine ⟨List.Pairwise.sublist (List.take_sublist _ _) hM, ?_, ?_⟩
  · rw [List.pairwise_cons]
    refine ⟨fun y hy => ?_, List.Pairwise.sublist (List.drop_sublist _ _) hM⟩
    obtain ⟨a, ha, e⟩ := List.getElem_of_mem hy
    rw [List.length_drop] at ha
    have e2 : M.getD (p + a) zq = y := by
      rw [← e, List.getElem_drop, List.getD_eq_getElem?_getD, List.getElem?_eq_getElem (by omega : p + a < M.length)]
      rfl
    have k := h.hi (p + a) (by omega) (by omega)
    rw [e2] at k
    have ne : ¬ oc y r = 0 := fun q => hr (by rw [← (oc_cm.eq _ _).1 q]; exact List.mem_of_mem_drop hy)
    exact (oc_cm.anti r y).2 (by omega)
  · intro x hx y hy
    obtain ⟨a, ha, e⟩ := List.getElem_of_mem hx
    rw [List.length_take] at ha
    have e2 : M.getD a zq = x := by
      rw [← e, List.getElem_take, List.getD_eq_getElem?_getD, List.getElem?_eq_getElem (by omega : a < M.length)]
      rfl
    have k := h.lo a (by omega)
    rw [e2] at k
    rcases List.mem_cons.1 hy with rfl | hy
    · exact k
    · have h2 := hM
      unfold Rs at h2
      rw [← List.take_append_drop p M, List.pairwise_append] at h2
      exact h2.2.2 x hx y hy
/-- Without what is at a place. -/
def del (M : List Rq) (p : Nat) : List Rq := M.take p ++ M.drop (p + 1)
theorem del_len {M : List Rq} {p : Nat} (h : p < M.length) : (del M p).length = M.length - 1 := by simp [del]; omega
theorem del_zero (x : Rq) (M : List Rq) : del (x :: M) 0 = M := by simp [del]
theorem del_rs {M : List Rq} {p : Nat} (hM : Rs M) : Rs (del M p) := by
  unfold del Rs
  have h2 := hM
  unfold Rs at h2
  rw [← List.take_append_drop p M, List.pairwise_append] at h2
  rw [List.pairwise_append]
  refine ⟨h2.1, List.Pairwise.sublist (List.drop_sublist _ _) hM, fun x hx y hy => h2.2.2 x hx y ?_⟩
  have : M.drop (p + 1) = (M.drop p).drop 1 := by rw [List.drop_drop]
  rw [this] at hy
  exact List.mem_of_mem_drop hy
theorem del_mem {M : List Rq} {p : Nat} (hM : Rs M) (hp : p < M.length) {z : Rq} : z ∈ del M p ↔ z ∈ M ∧ z ≠ M.getD p zq := by
  have e0 : M = M.take p ++ M.getD p zq :: M.drop (p + 1) := by
    rw [List.getD_eq_getElem?_getD, List.getElem?_eq_getElem hp]
    simp
  have hM' := hM
  unfold Rs at hM'
  rw [e0, List.pairwise_append, List.pairwise_cons] at hM'
  obtain ⟨_, ⟨h1, _⟩, h2⟩ := hM'
  have e1 : z ∈ M ↔ z ∈ M.take p ∨ z = M.getD p zq ∨ z ∈ M.drop (p + 1) := by
    conv => lhs; rw [e0]
    rw [List.mem_append, List.mem_cons]
  rw [e1]
  unfold del
  rw [List.mem_append]
  constructor
  · rintro (h | h)
    · refine ⟨Or.inl h, fun q => ?_⟩
      have := h2 z h (M.getD p zq) List.mem_cons_self
      rw [q, oc_self] at this
      omega
    · refine ⟨Or.inr (Or.inr h), fun q => ?_⟩
      have := h1 z h
      rw [q, oc_self] at this
      omega
  · rintro ⟨h | h | h, q⟩
    · exact Or.inl h
    · exact absurd h q
    · exact Or.inr h
/-- Two rising lists with the same in them are the same. -/
theorem rs_ext : ∀ {M N : List Rq}, Rs M → Rs N → (∀ z, z ∈ M ↔ z ∈ N) → M = N
  | [], [], _, _, _ => rfl
  | [], y :: N, _, _, h => by have := (h y).2 List.mem_cons_self; cases this
  | x :: M, [], _, _, h => by have := (h x).1 List.mem_cons_self; cases this
  | x :: M, y :: N, hM, hN, h => by
    have hM' := List.pairwise_cons.1 hM
    have hN' := List.pairwise_cons.1 hN
    have e : x = y := by
      rcases List.mem_cons.1 ((h x).1 List.mem_cons_self) with q | q
      · exact q
      · rcases List.mem_cons.1 ((h y).2 List.mem_cons_self) with q2 | q2
        · exact q2.symm
        · have a1 := hN'.1 x q
          have a2 := hM'.1 y q2
          have := (oc_cm.anti _ _).1 a1
          omega
    subst e
    have e2 : M = N := rs_ext hM'.2 hN'.2 (fun z => by
      constructor
      · intro hz
        rcases List.mem_cons.1 ((h z).1 (List.mem_cons_of_mem _ hz)) with q | q
        · have := hM'.1 z hz
          rw [q, oc_self] at this
          omega
        · exact q
      · intro hz
        rcases List.mem_cons.1 ((h z).2 (List.mem_cons_of_mem _ hz)) with q | q
        · have := hN'.1 z hz
          rw [q, oc_self] at this
          omega
        · exact q)
    rw [e2]
end Go.Proofs.YtpnbnnndpbjgmaaDoor.Qu
