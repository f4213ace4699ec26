/-
  What is proved here: what the document's Number answers, for any bound on the digits from 1 to 9 (contracts over the translation).
-/
import Derived.Test.YtikpfeaidgeebaaDoorRefRead2
import Derived.Test.YtikpfeaidgeebaaDoorTxtList
namespace Go.Proofs.YtikpfeaidgeebaaDoor.Mo
open Go.RowKit Cal Txt

theorem ext_list (s : ByteArray) (a b : Nat) : (s.extract a b).data.toList = (s.data.toList.drop a).take (b - a) := by
  simp
/-- A number that is read, and whether it is one. -/
def numA (o : Option Int) : Value := .tuple #[.int .i64 (o.getD 0), .bool o.isSome]
theorem numA_none {o : Option Int} (h : o = none) : numA o = .tuple #[.int .i64 0, .bool false] := by rw [h]; rfl
theorem nr_less {M : Nat} {l : List UInt8} (h : 1 < l.length) (h0 : l.head? = some 45) : nr M l = if okDg true M l.tail then some (-(val l.tail : Int)) else none := by unfold nr; rw [if_pos ⟨h, h0⟩]
theorem nr_more {M : Nat} {l : List UInt8} (h : ¬ (1 < l.length ∧ l.head? = some 45)) : nr M l = if okDg false M l then some (val l : Int) else none := by unfold nr; rw [if_neg h]
theorem ok_long {M : Nat} {less : Bool} {l : List UInt8} (h : M < l.length) : okDg less M l = false := by
  unfold okDg; rw [Bool.and_eq_false_iff]; exact Or.inl (decide_eq_false (fun k => by omega))
theorem ok_zero {M : Nat} {less : Bool} {l : List UInt8} (h : l.head? = some 48) (h1 : 1 < l.length ∨ less = true) : okDg less M l = false := by
  unfold okDg; rw [Bool.and_eq_false_iff]; exact Or.inl (decide_eq_false (fun k => k.2.2 ⟨h, h1⟩))
theorem ok_else {M : Nat} {less : Bool} {l : List UInt8} (h0 : l ≠ []) (h : l.length ≤ M) (h1 : ¬ (l.head? = some 48 ∧ (1 < l.length ∨ less = true))) : okDg less M l = dgs l 0 l.length := by
  unfold okDg dgs; rw [decide_eq_true ⟨h0, h, h1⟩, Bool.true_and, Nat.sub_zero, List.drop_zero, List.take_length]
theorem dv_val {l : List UInt8} (h : dgs l 0 l.length = true) : dv l 0 l.length = val l := by
  unfold dv nm; rw [if_pos h, Nat.sub_zero, List.drop_zero, List.take_length]
theorem dv_no {l : List UInt8} {a b : Nat} (h : dgs l a b = false) : dv l a b = 0 := by
  unfold dv; rw [if_neg (by rw [h]; decide)]
theorem head_at (s : ByteArray) (h : 0 < s.size) : s.data.toList.head? = some s[0] := by
  rw [List.head?_eq_getElem?, List.getElem?_eq_getElem (by exact h)]; rfl
set_option maxRecDepth 100000 in
set_option maxHeartbeats 2000000 in
theorem refNumber_more (M : Nat) (m1 : 1 ≤ M) (m9 : M ≤ 9) (s : ByteArray) (w : World) (hs : s.size ≤ 2000000) (hm : ¬ (1 < s.size ∧ s.data.toList.head? = some 45)) :
    Calls Tryd.prog 14 #[.string s, .int .i64 M] w fun e w' => e = .returned (numA (nr M s.data.toList)) ∧ w' = w := by
  have LS : s.data.toList.length = s.size := rfl
  have NM := nr_more (M := M) hm
  rcases Nat.eq_zero_or_pos s.size with h0 | h0
  · have e0 : s = ⟨#[]⟩ := ByteArray.ext (Array.ext' (List.eq_nil_of_length_eq_zero (by rw [LS]; exact h0)))
    subst e0
    rw [numA_none (by rfl)]
    clear NM LS hm
    go_enter Tryd.func14, Tryd.ntmps14
    go_wp2
    go_ret2
    exact ⟨rfl, rfl⟩
  have HD := head_at s h0
  have c : ¬ (1 : Int) < s.size ∨ ((1 : Int) < s.size ∧ ((s[0].toNat : Int) == 45) = false) := by
    by_cases c : 1 < s.size
    · refine Or.inr ⟨by omega, ?_⟩
      rw [beq_eq_false_iff_ne]
      intro q
      exact hm ⟨c, by rw [HD, (byte_eq (c := 45) rfl).2 q]⟩
    · exact Or.inl (by omega)
  have E : s.data.toList ≠ [] := fun q => by rw [q] at LS; simp at LS; omega
  have e0 : (s.toList == []) = false := by rw [ByteArray.toList_eq]; exact beq_eq_false_iff_ne.2 E
  have e1 : s.toList.isEmpty = false := by rw [ByteArray.toList_eq]; simpa using E
  by_cases c4 : M < s.size
  · have N0 : nr M s.data.toList = none := by rw [NM, ok_long (by rw [LS]; exact c4)]; rfl
    rw [numA_none N0]
    clear NM LS hm HD N0 E
    rcases c with c | ⟨c, d⟩
    · omega
    · go_enter Tryd.func14, Tryd.ntmps14
      go_wp2
      go_ret2
      exact ⟨rfl, rfl⟩
  by_cases z : s[0] = 48 ∧ 1 < s.size
  · have N0 : nr M s.data.toList = none := by rw [NM, ok_zero (by rw [HD, z.1]) (Or.inl (by rw [LS]; exact z.2))]; rfl
    rw [numA_none N0]
    have z1 : ((s[0].toNat : Int) == 48) = true := by rw [z.1]; rfl
    have z2 := z.2
    rcases c with c | ⟨c, d⟩
    · omega
    · clear NM LS hm HD N0 E z
      go_enter Tryd.func14, Tryd.ntmps14
      go_wp2
      go_ret2
      exact ⟨rfl, rfl⟩
  have OK := ok_else (M := M) (less := false) E (by rw [LS]; omega) (fun k => by
    rw [HD, LS] at k
    exact z ⟨Option.some.inj k.1, by rcases k.2 with q | q; exact q; cases q⟩)
  have DI := Lib.hid (fun W => digits_int s 0 s.size 0 s.size W rfl rfl (Nat.zero_le _) (Nat.le_refl _) (by omega) (by omega))
  have NA : Hid (numA (nr M s.data.toList) = .tuple #[.int .i64 (dv s.data.toList 0 s.size : Nat), .bool (dgs s.data.toList 0 s.size)]) := Lib.hid (by
    rw [NM, OK, LS]
    rcases q : dgs s.data.toList 0 s.size with _ | _
    · rw [if_neg (by decide), dv_no q]; rfl
    · rw [if_pos rfl, ← LS, dv_val (by rw [LS]; exact q)]; rfl)
  rw [NA.out]
  have z1 : ((s[0].toNat : Int) == 48) = false ∨ (((s[0].toNat : Int) == 48) = true ∧ ¬ (1 : Int) < s.size) := by
    by_cases q : s[0] = 48
    · exact Or.inr ⟨by rw [q]; rfl, fun k => z ⟨q, by omega⟩⟩
    · refine Or.inl ?_
      rw [beq_eq_false_iff_ne]
      intro q'
      exact q ((byte_eq (c := 48) rfl).2 q')
  clear NM LS hm HD NA E z OK
  rcases c with c | ⟨c, d⟩
  all_goals
    rcases z1 with z1 | ⟨z1, z2⟩
    all_goals first
      | omega
      | (go_enter Tryd.func14, Tryd.ntmps14
         go_wp2_with fail
         refine (DI.out _).mono ?_
         rintro e w' ⟨rfl, hw⟩
         subst hw
         go_wp2
         go_ret2
         exact ⟨rfl, rfl⟩)
set_option maxRecDepth 100000 in
set_option maxHeartbeats 2000000 in
theorem refNumber_less (M : Nat) (m1 : 1 ≤ M) (m9 : M ≤ 9) (s : ByteArray) (w : World) (hs : s.size ≤ 2000000) (h1 : 1 < s.size) (hm : s.data.toList.head? = some 45) :
    Calls Tryd.prog 14 #[.string s, .int .i64 M] w fun e w' => e = .returned (numA (nr M s.data.toList)) ∧ w' = w := by
  have NM := nr_less (M := M) (show 1 < s.data.toList.length from h1) hm
  have HD := head_at s (by omega)
  have d : ((s[0].toNat : Int) == 45) = true := by
    rw [HD] at hm; rw [Option.some.inj hm]; rfl
  have h1' : (1 : Int) < s.size := by omega
  obtain ⟨t, ht⟩ : ∃ t, t = s.extract 1 s.size := ⟨_, rfl⟩
  have TL : s.data.toList.tail = t.data.toList := by
    rw [ht, ext_list, List.take_of_length_le (by rw [List.length_drop]; exact Nat.le_refl _), List.drop_one]
  have TS : t.size = s.size - 1 := by
    have := congrArg List.length TL
    rw [List.length_tail] at this
    exact this.symm
  rw [TL] at NM
  have LS : t.data.toList.length = t.size := rfl
  have E : t.data.toList ≠ [] := fun q => by rw [q] at LS; simp at LS; omega
  have h0 : 0 < t.size := by omega
  have HT := head_at t h0
  have e0 : (t.toList == []) = false := by rw [ByteArray.toList_eq]; exact beq_eq_false_iff_ne.2 E
  have e1 : t.toList.isEmpty = false := by rw [ByteArray.toList_eq]; simpa using E
  have e2 : ¬ t.toList = [] := by rw [ByteArray.toList_eq]; exact E
  have hts : t.size ≤ 2000000 := by omega
  by_cases c4 : M < t.size
  · have N0 : nr M s.data.toList = none := by rw [NM, ok_long (by rw [LS]; exact c4)]; rfl
    rw [numA_none N0]
    have c4' : (M : Int) < ((s.size - 1 : Nat) : Int) := by omega
    clear NM LS hm HD N0 E HT TL
    subst ht
    clear TS h0 hts c4
    go_enter Tryd.func14, Tryd.ntmps14
    go_wp2
    go_ret2
    exact ⟨rfl, rfl⟩
  have c4' : ¬ (M : Int) < ((s.size - 1 : Nat) : Int) := by omega
  have h2 : 0 < s.size - 1 := by omega
  by_cases z : t[0] = 48
  · have N0 : nr M s.data.toList = none := by rw [NM, ok_zero (by rw [HT, z]) (Or.inr rfl)]; rfl
    rw [numA_none N0]
    have z1 : ((t[0].toNat : Int) == 48) = true := by rw [z]; rfl
    clear NM LS hm HD N0 E HT TL z
    subst ht
    clear TS hts c4
    by_cases q : (1 : Int) < ((s.size - 1 : Nat) : Int)
    all_goals
      go_enter Tryd.func14, Tryd.ntmps14
      go_wp2
      go_ret2
      exact ⟨rfl, rfl⟩
  have OK := ok_else (M := M) (less := true) E (by rw [LS]; omega) (fun k => by
    rw [HT] at k
    exact z (Option.some.inj k.1))
  have DI := Lib.hid (fun W => digits_int t 0 t.size 0 (t.size : Nat) W rfl rfl (Nat.zero_le _) (Nat.le_refl _) (by omega) (by omega))
  have z1 : ((t[0].toNat : Int) == 48) = false := by
    rw [beq_eq_false_iff_ne]
    intro q'
    exact z ((byte_eq (c := 48) rfl).2 q')
  have NA : Hid (numA (nr M s.data.toList) = .tuple #[.int .i64 (-(dv t.data.toList 0 t.size : Int)), .bool (dgs t.data.toList 0 t.size)]) := Lib.hid (by
    rw [NM, OK, LS]
    rcases q : dgs t.data.toList 0 t.size with _ | _
    · rw [if_neg (by decide), dv_no q]; rfl
    · rw [if_pos rfl, ← LS, dv_val (by rw [LS]; exact q)]; rfl)
  have DB : dv t.data.toList 0 t.size ≤ 999999999 := by
    rcases q : dgs t.data.toList 0 t.size with _ | _
    · rw [dv_no q]; omega
    · rw [← LS, dv_val (by rw [LS]; exact q)]
      have := (ok_dec (less := true) (most := M) (by rw [OK, LS]; exact q)).2.2
      have p9 : (10 : Nat) ^ M ≤ 10 ^ 9 := Nat.pow_le_pow_right (by decide) m9
      omega
  rw [NA.out]
  generalize dv t.data.toList 0 t.size = V at DI DB ⊢
  generalize dgs t.data.toList 0 t.size = G at DI ⊢
  rw [TS] at DI
  clear NM LS hm HD NA E HT TL z OK
  subst ht
  clear TS hts c4
  go_enter Tryd.func14, Tryd.ntmps14
  go_wp2_with fail
  refine (DI.out _).mono ?_
  rintro e w' ⟨rfl, hw⟩
  subst hw
  go_wp2
  go_ret2
  exact ⟨rfl, rfl⟩
theorem refNumber (M : Nat) (m1 : 1 ≤ M) (m9 : M ≤ 9) (s : ByteArray) (w : World) (hs : s.size ≤ 2000000) :
    Calls Tryd.prog 14 #[.string s, .int .i64 M] w fun e w' => e = .returned (numA (nr M s.data.toList)) ∧ w' = w := by
  by_cases h : 1 < s.size ∧ s.data.toList.head? = some 45
  · exact refNumber_less M m1 m9 s w hs h.1 h.2
  · exact refNumber_more M m1 m9 s w hs h
end Go.Proofs.YtikpfeaidgeebaaDoor.Mo
