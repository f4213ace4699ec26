/-
  What is proved here: a region that draws its order, whose last operation (a store) waits for all others, and whose others only read or call what leaves old memory alone: one walk serves every order. No program is named.
-/
import Derived.Lib.QuietBelow
import Derived.WalkKit
namespace Go.Proofs.YtpplfcfhjpfckaaGreatDoor
open Go.RowKit

section
variable {P : Program} {ops : Array Oper} {md : Region.Mode} {C : World → Prop} {Q : Act → Prop} {Q' : Exit → Act → World → Prop} {z : Nat} {o : Oper}

/-- Nobody waits for operation z, each waits for earlier ones alone, and z waits for all others. -/
def lastB (md : Region.Mode) (ops : Array Oper) (z : Nat) : Bool :=
  ((List.range ops.size).all fun j => match ops[j]? with
    | some oj => oj.after.all fun e => !Region.binds md e || (e.on != z && decide (e.on < j))
    | none => true) &&
  (match ops[z]? with
    | some o => (List.range ops.size).all fun j => j == z || o.after.any fun e => Region.binds md e && e.on == j
    | none => false)
theorem lastB_early (h : lastB md ops z = true) {j : Nat} {oj : Oper} (hj : ops[j]? = some oj) {e : Edge} (he : e ∈ oj.after) (hb : Region.binds md e = true) : e.on ≠ z ∧ e.on < j := by
  unfold lastB at h
  rw [Bool.and_eq_true] at h
  have hlt : j < ops.size := by
    rcases Nat.lt_or_ge j ops.size with k | k
    · exact k
    · rw [Array.getElem?_eq_none k] at hj; cases hj
  have k := List.all_eq_true.1 h.1 j (List.mem_range.2 hlt)
  rw [hj] at k
  have k2 := Array.all_eq_true_iff_forall_mem.1 k e he
  rw [hb] at k2
  simp at k2
  exact k2
theorem lastB_waits (h : lastB md ops z = true) (hz : ops[z]? = some o) {j : Nat} (hj : j < ops.size) (hne : j ≠ z) : ∃ e ∈ o.after, Region.binds md e = true ∧ e.on = j := by
  unfold lastB at h
  rw [Bool.and_eq_true, hz] at h
  have k := List.all_eq_true.1 h.2 j (List.mem_range.2 hj)
  rw [Bool.or_eq_true] at k
  rcases k with k | k
  · exact absurd (by simpa using k) hne
  · rw [← Array.any_toList, List.any_eq_true] at k
    obtain ⟨e, he, hk⟩ := k
    rw [Bool.and_eq_true] at hk
    exact ⟨e, by simpa using he, hk.1, by simpa using hk.2⟩
theorem getD_both {L : Array Bool} {j : Nat} (hj : j < L.size) (d d' : Bool) : L.getD j d = L.getD j d' := by simp [Array.getD, hj]
/-- Where none is ready all have come up. -/
theorem all_listed (h : lastB md ops z = true) {L : Array Bool} (hs : L.size = ops.size) (hr : Region.ready md ops L = []) : ∀ n j, j < n → j < ops.size → L.getD j true = true := by
  intro n
  induction n with
  | zero => intro j hj; omega
  | succ n ih =>
    intro j hj hlt
    rcases hv : L.getD j true with _ | _
    · have hoj : ops[j]? = some ops[j] := Array.getElem?_eq_getElem hlt
      have : j ∈ Region.ready md ops L := mem_ready.2 ⟨hv, ops[j], hoj, fun e he hb => by
        have k := (lastB_early h hoj he hb).2
        rw [getD_both (by omega) false true]
        exact ih e.on (by omega) (by omega)⟩
      rw [hr] at this
      cases this
    · rfl
theorem any_last (h : lastB md ops z = true) (hz : ops[z]? = some o) (hQ : ∀ a w, C w → Q a → wpList P ops Q' [o] a w) : ∀ (fuel : Nat) (L : Array Bool) (a : Act) (w : World), C w → L.size = ops.size → L.getD z true = false →
    wpAnyQ P md ops C Q fuel (L.setIfInBounds z true) a → wpAny P md ops Q' (fuel + 1) L a w := by
  have hzs : z < ops.size := by
    rcases Nat.lt_or_ge z ops.size with k | k
    · exact k
    · rw [Array.getElem?_eq_none k] at hz; cases hz
  have fin : ∀ (fuel : Nat) (L : Array Bool) (a : Act) (w : World), C w → L.size = ops.size → L.getD z true = false → Region.ready md ops (L.setIfInBounds z true) = [] → Q a → wpAny P md ops Q' (fuel + 1) L a w := by
    intro fuel L a w hw hs hL hr hq
    have hall := all_listed h (by rw [Array.size_setIfInBounds]; exact hs) hr ops.size
    have hzr : z ∈ Region.ready md ops L := mem_ready.2 ⟨hL, o, hz, fun e he hb => by
      have k := lastB_early h hz he hb
      have k2 := hall e.on (by omega) (by omega)
      rw [getD_set_ne true (Ne.symm k.1)] at k2
      rw [getD_both (by omega) false true]; exact k2⟩
    refine ⟨fun e => (by rw [e] at hzr; cases hzr), fun i hi => ?_⟩
    have hiz : i = z := by
      by_cases hne : i = z
      · exact hne
      · have := ready_mono (i := z) hi hne
        rw [hr] at this; cases this
    subst hiz
    have k := hQ a w hw hq
    unfold wpOp
    rw [hz]
    show if _ then _ else _
    have go : ∀ a' w', Q' .normal a' w' → wpAny P md ops Q' fuel (L.setIfInBounds i true) a' w' := fun a' w' q => by
      cases fuel with
      | zero => exact ⟨hr, q⟩
      | succ f => exact ⟨fun _ => q, fun j hj => by rw [hr] at hj; cases hj⟩
    have e2 : wpOp P ops Q' i (fun a' w' => Q' .normal a' w') a w := by
      unfold wpOp
      rw [hz]
      exact k
    have e3 := wpOp_mono go e2
    unfold wpOp at e3
    rw [hz] at e3
    exact e3
  intro fuel
  induction fuel with
  | zero => intro L a w hw hs hL H; exact fin 0 L a w hw hs hL H.1 H.2
  | succ f ih =>
    intro L a w hw hs hL H
    by_cases hr : Region.ready md ops (L.setIfInBounds z true) = []
    · exact fin (f + 1) L a w hw hs hL hr (H.1 hr)
    · obtain ⟨m, hm⟩ : ∃ m, m ∈ Region.ready md ops (L.setIfInBounds z true) := List.exists_mem_of_ne_nil _ hr
      have hm0 := (mem_ready.1 hm).1
      have hmz : m ≠ z := fun e => by
        rw [e] at hm0
        simp [show z < L.size by omega] at hm0
      rw [getD_set_ne true (Ne.symm hmz)] at hm0
      have hms : m < ops.size := by
        obtain ⟨_, om, hom, _⟩ := mem_ready.1 hm
        rcases Nat.lt_or_ge m ops.size with k | k
        · exact k
        · rw [Array.getElem?_eq_none k] at hom; cases hom
      have hnz : z ∉ Region.ready md ops L := fun hzr => by
        obtain ⟨_, o', ho', hall⟩ := mem_ready.1 hzr
        rw [hz] at ho'
        cases ho'
        obtain ⟨e, he, hb, hon⟩ := lastB_waits h hz hms hmz
        have k := hall e he hb
        rw [hon, getD_both (by omega) false true, hm0] at k
        cases k
      refine ⟨fun e => ?_, fun i hi => ?_⟩
      · -- m is ready already
        have : m ∈ Region.ready md ops L := by
          obtain ⟨_, om, hom, hall⟩ := mem_ready.1 hm
          exact mem_ready.2 ⟨hm0, om, hom, fun e he hb => by
            have k := hall e he hb
            rwa [getD_set_ne false (Ne.symm (lastB_early h hom he hb).1)] at k⟩
        rw [e] at this; cases this
      · have hiz : i ≠ z := fun e => hnz (e ▸ hi)
        refine wpOp_of_qOp hw (fun a' w' hw' hk => ?_) (H.2 i (ready_mono hi hiz))
        refine ih (L.setIfInBounds i true) a' w' hw' (by rw [Array.size_setIfInBounds]; exact hs) (by rw [getD_set_ne true hiz]; exact hL) ?_
        rw [Array.setIfInBounds_comm _ _ hiz]
        exact hk
theorem lex_most (hs : Region.noSelect ops = true) : ∀ (l : List Oper) (k : Nat) (L : Array Bool) (a : Act), (∀ j, j < l.length → l[j]? = ops[k + j]?) → Region.lexFrom md ops l.length k L = true → wpQuiet P ops C Q l a → wpAnyQ P md ops C Q l.length L a := by
  intro l
  induction l with
  | nil => intro k L a _ hB h; exact ⟨by simpa [Region.lexFrom] using hB, h⟩
  | cons o l ih =>
    intro k L a hl hB h
    have h0 : ops[k]? = some o := by have := hl 0 (by simp); simpa using this.symm
    simp only [List.length_cons, Region.lexFrom, Bool.and_eq_true] at hB
    obtain ⟨v, hy, hK⟩ := yieldsIn_of_qOp (K := wpQuiet P ops C Q l) h0 (by unfold qOp; rw [h0]; exact h)
    exact wpAnyQ_first h0 (Region.noSelect_spec hs) l.length L a (Region.free_spec h0 hB.1.2) (by simpa using hB.1.1) hy
      (ih (k + 1) _ _ (fun j hj => by have := hl (j + 1) (by simp; omega); simpa [Nat.add_assoc, Nat.add_comm 1 j] using this) hB.2 hK)
end
/-- The Bool of a region whose last operation waits for all others. -/
def lexLastB (l : List Oper) (o : Oper) : Bool := Region.noSelect (l ++ [o]).toArray && Region.lexFrom .any (l ++ [o]).toArray l.length 0 ((Array.replicate (l ++ [o]).toArray.size false).setIfInBounds l.length true) && lastB .any (l ++ [o]).toArray l.length
theorem wp_region_last {P : Program} {id : Nat} {Q : Exit → Act → World → Prop} {a : Act} {w : World} {l : List Oper} {o : Oper} (hm : P.follows .mixedOrders = true) (hB : lexLastB l o = true)
    (h : wpQuiet P (l ++ [o]).toArray (fun w' => ∃ p : Regrown, w' = Sort.grow (redrawn w p.d) p.os) (fun a' => ∀ w', (∃ p : Regrown, w' = Sort.grow (redrawn w p.d) p.os) → wpList P (l ++ [o]).toArray Q [o] a' w') l a) : (Code.region id (l ++ [o]).toArray true).wp P Q a w := by
  unfold lexLastB at hB
  rw [Bool.and_eq_true, Bool.and_eq_true] at hB
  obtain ⟨⟨h1, h2⟩, h3⟩ := hB
  refine wp_region_any hm ?_
  have hsz : (l ++ [o]).toArray.size = l.length + 1 := by simp
  have hz : (l ++ [o]).toArray[l.length]? = some o := by simp
  have k := lex_most (P := P) (md := .any) h1 l 0 _ a (fun j hj => by simp [List.getElem?_append_left hj]) h2 h
  have := any_last (P := P) (Q' := Q) h3 hz (fun a' w' hw' hq => hq w' hw') l.length (Array.replicate (l ++ [o]).toArray.size false) a { w with drawn := w.drawn + 1 } ⟨⟨w.drawn + 1, #[]⟩, by rw [Sort.grow_empty]; rfl⟩ (by simp) (by simp) k
  rw [hsz] at this ⊢
  exact this
/-- The same of a region that is written out, its last operation at a place. -/
theorem wp_region_last_at {P : Program} {id : Nat} {Q : Exit → Act → World → Prop} {a : Act} {w : World} {L : List Oper} (n : Nat) {o : Oper} (ho : L.drop n = [o]) (hm : P.follows .mixedOrders = true) (hB : lexLastB (L.take n) o = true)
    (h : wpQuiet P L.toArray (fun w' => ∃ p : Regrown, w' = Sort.grow (redrawn w p.d) p.os) (fun a' => ∀ w', (∃ p : Regrown, w' = Sort.grow (redrawn w p.d) p.os) → wpList P L.toArray Q [o] a' w') (L.take n) a) : (Code.region id L.toArray true).wp P Q a w := by
  have e : L.take n ++ [o] = L := by rw [← ho, List.take_append_drop]
  have k := wp_region_last (id := id) (l := L.take n) (o := o) (Q := Q) (a := a) (w := w) hm hB (by rw [e]; exact h)
  rwa [e] at k
end Go.Proofs.YtpplfcfhjpfckaaGreatDoor
