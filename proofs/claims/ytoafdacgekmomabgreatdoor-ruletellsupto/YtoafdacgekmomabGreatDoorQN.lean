/-
  What is proved here: what the document's Number answers (contracts over the translation).
  What is proved here: what the document's numbers answers (contracts over the translation).
  What is proved here: what the document's nths answers (contracts over the translation).
-/
import Derived.Test.YtoafdacgekmomabGreatDoorRefCut
import Derived.Test.YtoafdacgekmomabGreatDoorQM
import Derived.Test.YtoafdacgekmomabGreatDoorRpPart
namespace Go.Proofs.YtoafdacgekmomabGreatDoor
open Go.RowKit Cal Txt

theorem nr_less {l : List UInt8} (h : 1 < l.length) (h0 : l.head? = some 45) : nr 4 l = if okDg true 4 l.tail then some (-(val l.tail : Int)) else none := by unfold nr; rw [if_pos ⟨h, h0⟩]
theorem nr_more {l : List UInt8} (h : ¬ (1 < l.length ∧ l.head? = some 45)) : nr 4 l = if okDg false 4 l then some (val l : Int) else none := by unfold nr; rw [if_neg h]
theorem ok_long {less : Bool} {l : List UInt8} (h : 4 < l.length) : okDg less 4 l = false := by
  unfold okDg; rw [Bool.and_eq_false_iff]; exact Or.inl (decide_eq_false (fun k => by omega))
theorem ok_zero {less : Bool} {l : List UInt8} (h : l.head? = some 48) (h1 : 1 < l.length ∨ less = true) : okDg less 4 l = false := by
  unfold okDg; rw [Bool.and_eq_false_iff]; exact Or.inl (decide_eq_false (fun k => k.2.2 ⟨h, h1⟩))
theorem ok_else {less : Bool} {l : List UInt8} (h0 : l ≠ []) (h : l.length ≤ 4) (h1 : ¬ (l.head? = some 48 ∧ (1 < l.length ∨ less = true))) : okDg less 4 l = dgs l 0 l.length := by
  unfold okDg dgs; rw [decide_eq_true ⟨h0, h, h1⟩, Bool.true_and, Nat.sub_zero, List.drop_zero, List.take_length]
theorem dv_val {l : List UInt8} (h : dgs l 0 l.length = true) : dv l 0 l.length = val l := by
  unfold dv nm; rw [if_pos h, Nat.sub_zero, List.drop_zero, List.take_length]
theorem dv_no {l : List UInt8} {a b : Nat} (h : dgs l a b = false) : dv l a b = 0 := by
  unfold dv; rw [if_neg (by rw [h]; decide)]
theorem head_at (s : ByteArray) (h : 0 < s.size) : s.data.toList.head? = some s[0] := by
  rw [List.head?_eq_getElem?, List.getElem?_eq_getElem (by exact h)]; rfl
set_option maxRecDepth 100000 in
set_option maxHeartbeats 2000000 in
theorem refNumber_more (s : ByteArray) (w : World) (hs : s.size ≤ 2000000) (hm : ¬ (1 < s.size ∧ s.data.toList.head? = some 45)) :
    Calls Tryz.prog 28 #[.string s, .int .i64 4] w fun e w' => e = .returned (numA (nr 4 s.data.toList)) ∧ w' = w := by
  have LS : s.data.toList.length = s.size := rfl
  have NM := nr_more hm
  rcases Nat.eq_zero_or_pos s.size with h0 | h0
  · have e0 : s = ⟨#[]⟩ := ByteArray.ext (Array.ext' (List.eq_nil_of_length_eq_zero (by rw [LS]; exact h0)))
    subst e0
    rw [numA_none (by rfl)]
    clear NM LS hm
    go_enter Tryz.func28, Tryz.ntmps28
    go_wp2
    go_ret2
    exact ⟨rfl, rfl⟩
  have HD := head_at s h0
  have c : ¬ (1 : Int) < s.size ∨ ((1 : Int) < s.size ∧ ((s[0].toNat : Int) == 45) = false) := by
    by_cases c : 1 < s.size
    · refine Or.inr ⟨by omega, ?_⟩
      rw [beq_eq_false_iff_ne]
      intro q
      exact hm ⟨c, by rw [HD, (byte_eq (c := 45) rfl).2 q]⟩
    · exact Or.inl (by omega)
  have E : s.data.toList ≠ [] := fun q => by rw [q] at LS; simp at LS; omega
  have e0 : (s.toList == []) = false := by rw [ByteArray.toList_eq]; exact beq_eq_false_iff_ne.2 E
  have e1 : s.toList.isEmpty = false := by rw [ByteArray.toList_eq]; simpa using E
  by_cases c4 : 4 < s.size
  · have N0 : nr 4 s.data.toList = none := by rw [NM, ok_long (by rw [LS]; exact c4)]; rfl
    rw [numA_none N0]
    clear NM LS hm HD N0 E
    rcases c with c | ⟨c, d⟩
    · omega
    · go_enter Tryz.func28, Tryz.ntmps28
      go_wp2
      go_ret2
      exact ⟨rfl, rfl⟩
  by_cases z : s[0] = 48 ∧ 1 < s.size
  · have N0 : nr 4 s.data.toList = none := by rw [NM, ok_zero (by rw [HD, z.1]) (Or.inl (by rw [LS]; exact z.2))]; rfl
    rw [numA_none N0]
    have z1 : ((s[0].toNat : Int) == 48) = true := by rw [z.1]; rfl
    have z2 := z.2
    rcases c with c | ⟨c, d⟩
    · omega
    · clear NM LS hm HD N0 E z
      go_enter Tryz.func28, Tryz.ntmps28
      go_wp2
      go_ret2
      exact ⟨rfl, rfl⟩
  have OK := ok_else (less := false) E (by rw [LS]; omega) (fun k => by
    rw [HD, LS] at k
    exact z ⟨Option.some.inj k.1, by rcases k.2 with q | q; exact q; cases q⟩)
  have DI := Lib.hid (fun W => digits_int s 0 s.size 0 s.size W rfl rfl (Nat.zero_le _) (Nat.le_refl _) (by omega) (by omega))
  have NA : Hid (numA (nr 4 s.data.toList) = .tuple #[.int .i64 (dv s.data.toList 0 s.size : Nat), .bool (dgs s.data.toList 0 s.size)]) := Lib.hid (by
    rw [NM, OK, LS]
    rcases q : dgs s.data.toList 0 s.size with _ | _
    · rw [if_neg (by decide), dv_no q]; rfl
    · rw [if_pos rfl, ← LS, dv_val (by rw [LS]; exact q)]; rfl)
  rw [NA.out]
  have z1 : ((s[0].toNat : Int) == 48) = false ∨ (((s[0].toNat : Int) == 48) = true ∧ ¬ (1 : Int) < s.size) := by
    by_cases q : s[0] = 48
    · exact Or.inr ⟨by rw [q]; rfl, fun k => z ⟨q, by omega⟩⟩
    · refine Or.inl ?_
      rw [beq_eq_false_iff_ne]
      intro q'
      exact q ((byte_eq (c := 48) rfl).2 q')
  clear NM LS hm HD NA E z OK
  rcases c with c | ⟨c, d⟩
  all_goals
    rcases z1 with z1 | ⟨z1, z2⟩
    all_goals first
      | omega
      | (go_enter Tryz.func28, Tryz.ntmps28
         go_wp2_with fail
         refine (DI.out _).mono ?_
         rintro e w' ⟨rfl, hw⟩
         subst hw
         go_wp2
         go_ret2
         exact ⟨rfl, rfl⟩)
set_option maxRecDepth 100000 in
set_option maxHeartbeats 2000000 in
theorem refNumber_less (s : ByteArray) (w : World) (hs : s.size ≤ 2000000) (h1 : 1 < s.size) (hm : s.data.toList.head? = some 45) :
    Calls Tryz.prog 28 #[.string s, .int .i64 4] w fun e w' => e = .returned (numA (nr 4 s.data.toList)) ∧ w' = w := by
  have NM := nr_less (show 1 < s.data.toList.length from h1) hm
  have HD := head_at s (by omega)
  have d : ((s[0].toNat : Int) == 45) = true := by
    rw [HD] at hm; rw [Option.some.inj hm]; rfl
  have h1' : (1 : Int) < s.size := by omega
  obtain ⟨t, ht⟩ : ∃ t, t = s.extract 1 s.size := ⟨_, rfl⟩
  have TL : s.data.toList.tail = t.data.toList := by
    rw [ht, ext_list, List.take_of_length_le (by rw [List.length_drop]; exact Nat.le_refl _), List.drop_one]
  have TS : t.size = s.size - 1 := by
    have := congrArg List.length TL
    rw [List.length_tail] at this
    exact this.symm
  rw [TL] at NM
  have LS : t.data.toList.length = t.size := rfl
  have E : t.data.toList ≠ [] := fun q => by rw [q] at LS; simp at LS; omega
  have h0 : 0 < t.size := by omega
  have HT := head_at t h0
  have e0 : (t.toList == []) = false := by rw [ByteArray.toList_eq]; exact beq_eq_false_iff_ne.2 E
  have e1 : t.toList.isEmpty = false := by rw [ByteArray.toList_eq]; simpa using E
  have e2 : ¬ t.toList = [] := by rw [ByteArray.toList_eq]; exact E
  have hts : t.size ≤ 2000000 := by omega
  by_cases c4 : 4 < t.size
  · have N0 : nr 4 s.data.toList = none := by rw [NM, ok_long (by rw [LS]; exact c4)]; rfl
    rw [numA_none N0]
    have c4' : (4 : Int) < ((s.size - 1 : Nat) : Int) := by omega
    clear NM LS hm HD N0 E HT TL
    subst ht
    clear TS h0 hts c4
    go_enter Tryz.func28, Tryz.ntmps28
    go_wp2
    go_ret2
    exact ⟨rfl, rfl⟩
  have c4' : ¬ (4 : Int) < ((s.size - 1 : Nat) : Int) := by omega
  have h2 : 0 < s.size - 1 := by omega
  by_cases z : t[0] = 48
  · have N0 : nr 4 s.data.toList = none := by rw [NM, ok_zero (by rw [HT, z]) (Or.inr rfl)]; rfl
    rw [numA_none N0]
    have z1 : ((t[0].toNat : Int) == 48) = true := by rw [z]; rfl
    clear NM LS hm HD N0 E HT TL z
    subst ht
    clear TS hts c4
    by_cases q : (1 : Int) < ((s.size - 1 : Nat) : Int)
    all_goals
      go_enter Tryz.func28, Tryz.ntmps28
      go_wp2
      go_ret2
      exact ⟨rfl, rfl⟩
  have OK := ok_else (less := true) E (by rw [LS]; omega) (fun k => by
    rw [HT] at k
    exact z (Option.some.inj k.1))
  have DI := Lib.hid (fun W => digits_int t 0 t.size 0 (t.size : Nat) W rfl rfl (Nat.zero_le _) (Nat.le_refl _) (by omega) (by omega))
  have z1 : ((t[0].toNat : Int) == 48) = false := by
    rw [beq_eq_false_iff_ne]
    intro q'
    exact z ((byte_eq (c := 48) rfl).2 q')
  have NA : Hid (numA (nr 4 s.data.toList) = .tuple #[.int .i64 (-(dv t.data.toList 0 t.size : Int)), .bool (dgs t.data.toList 0 t.size)]) := Lib.hid (by
    rw [NM, OK, LS]
    rcases q : dgs t.data.toList 0 t.size with _ | _
    · rw [if_neg (by decide), dv_no q]; rfl
    · rw [if_pos rfl, ← LS, dv_val (by rw [LS]; exact q)]; rfl)
  have DB : dv t.data.toList 0 t.size ≤ 9999 := by
    rcases q : dgs t.data.toList 0 t.size with _ | _
    · rw [dv_no q]; omega
    · rw [← LS, dv_val (by rw [LS]; exact q)]
      have := (ok_dec (less := true) (most := 4) (by rw [OK, LS]; exact q)).2.2
      omega
  rw [NA.out]
  generalize dv t.data.toList 0 t.size = V at DI DB ⊢
  generalize dgs t.data.toList 0 t.size = G at DI ⊢
  rw [TS] at DI
  clear NM LS hm HD NA E HT TL z OK
  subst ht
  clear TS hts c4
  go_enter Tryz.func28, Tryz.ntmps28
  go_wp2_with fail
  refine (DI.out _).mono ?_
  rintro e w' ⟨rfl, hw⟩
  subst hw
  go_wp2
  go_ret2
  exact ⟨rfl, rfl⟩
theorem refNumber (s : ByteArray) (w : World) (hs : s.size ≤ 2000000) :
    Calls Tryz.prog 28 #[.string s, .int .i64 4] w fun e w' => e = .returned (numA (nr 4 s.data.toList)) ∧ w' = w := by
  by_cases h : 1 < s.size ∧ s.data.toList.head? = some 45
  · exact refNumber_less s w hs h.1 h.2
  · exact refNumber_more s w hs h
end Go.Proofs.YtoafdacgekmomabGreatDoor
namespace Go.Proofs.YtoafdacgekmomabGreatDoor
open Go.RowKit Cal Txt

/-- A cut text's pieces, where they lie. -/
theorem cut_lies {c : UInt8} {s : ByteArray} {w w' : World} {v : Value} (h : w'.ownsRow w.heap.size 9 1 v (pcs c s).length (strs (pcs c s))) :
    ∃ g cap, v = .slice (some ⟨g, 0, none⟩) (pcs c s).length cap ∧ w.heap.size ≤ g ∧ g < w'.heap.size ∧ (pcs c s).length ≤ cap ∧ ∀ k (hk : k < (pcs c s).length), w'.cell? ⟨g, k, none⟩ = some (.string (pcs c s)[k]) := by
  have hp : 0 < (pcs c s).length := by rw [pcs_len]; omega
  obtain ⟨g, cap, hv, hg, hc, hx⟩ := own_texts h hp
  refine ⟨g, cap, hv, (h.lt g (by rw [hv]; rfl)).1, hg, hc, fun k hk => ?_⟩
  have := hx k (pcs c s)[k] (List.getElem?_eq_getElem hk)
  rwa [Nat.zero_add] at this
theorem pcs_le {c : UInt8} {s : ByteArray} (hs : s.size ≤ 2000000) : (pcs c s).length ≤ 2000001 := by
  rw [pcs_len]
  have := List.count_le_length (a := c) (l := s.data.toList)
  have e : s.data.toList.length = s.size := rfl
  omega
set_option maxRecDepth 100000 in
set_option maxHeartbeats 2000000 in
theorem refNumbers (s : ByteArray) (w : World) (hs : s.size ≤ 2000000) :
    Calls Tryz.prog 30 #[.string s] w (ListA Ints w (lr (nr 4) s.data.toList)) := by
  obtain ⟨i0, hi, hz0, hz1, hz2⟩ := info_parts info_parseList_int
  have PL := pcs_le (c := 44) hs
  go_enter Tryz.func30, Tryz.ntmps30
  go_wp2_with fail
  refine (refCut s 44 _ hs).mono ?_
  rintro e W1 ⟨B0, v, rfl, hown0⟩
  have HB := Lib.hid B0
  obtain ⟨g, cap, rfl, hg0, hg1, hcap, hC⟩ := cut_lies hown0
  have HC := Lib.hid hC
  clear hown0 hC B0
  go_wp2
  go_loopw [4, 6] (fun v i wr => ∃ (k : Nat) (xs : List (Int)), k ≤ (pcs 44 s).length ∧ i = .int .i64 k ∧ rdK (nr 4) (pcs 44 s) k = some xs ∧ xs.length = k ∧ wr.ownsRow W1.heap.size 3 1 v k (ints xs) ∧ Below W1.heap.size W1 wr) (fun _ i _ => (pcs 44 s).length - (intOf i).toNat)
  case atStart => exact ⟨0, [], Nat.zero_le _, rfl, rfl, rfl, World.ownsRow_nil _ _ _ _, Below.refl _ _⟩
  case round =>
    obtain ⟨k, xs, hk, rfl, hx, hxl, hown, hB⟩ := hrel
    have HX := Lib.hid hx
    have HO := Lib.hid hown
    have hBw : Below w.heap.size w wr := HB.out.trans (hB.mono HB.out.size)
    clear hx hown
    by_cases hlt : k < (pcs 44 s).length
    · have ck := (hB.cell (p := ⟨g, k, none⟩) hg1).trans (HC.out k hlt)
      obtain ⟨x, hxk⟩ : ∃ x, x = (pcs 44 s)[k] := ⟨_, rfl⟩
      have hsz : x.size ≤ s.size := by rw [hxk]; exact pcs_size 44 s _ (List.getElem_mem hlt)
      rw [← hxk] at ck
      have HXK := Lib.hid hxk
      clear hxk
      go_wp2_with fail
      refine (refNumber x _ (by omega)).mono ?_
      rintro e w2 ⟨rfl, hw⟩
      subst hw
      rcases hr : nr 4 x.data.toList with _ | y
      · have N0 : Hid (lr (nr 4) s.data.toList = none) := Lib.hid (rdK_none (nr 4) s k hlt (by rw [← HXK.out]; exact hr))
        clear hr
        rw [numA_none rfl]
        go_wp2
        go_ret2
        exact ⟨hBw, Or.inl ⟨N0.out, rfl⟩⟩
      · have N1 := Lib.hid (rdK_next (nr 4) (pcs 44 s) k xs y hlt HX.out (by rw [← HXK.out]; exact hr))
        clear hr
        rw [numA_some rfl]
        have HO1 := Lib.hid (own_below HO.out (Below.refl _ w2))
        have sz : W1.heap.size ≤ w2.heap.size := hB.size
        go_wp2_with (at_builtin; refine wpList_append_own _ rfl _ _ 22 rfl W1.heap.size 3 i0 (.int .i64 0) 1 8 Tryz.underlying22 hi hz0 hz1 hz2 rfl (by decide) _ _ _ rfl (HO1.out.alloc _) ⟨w2.heap.size, 0, none⟩ 1 1 [.int .i64 y] rfl rfl ?c1 ?c2 ?c3 ?c4 ?c5 ?_)
        case c1 =>
          intro j u hj
          match j, hj with
          | 0, hj => simp at hj; subst hj; simp [Addr.add]
        case c2 => intro u hu; simp at hu; subst hu; rfl
        case c3 => unfold maxLen; omega
        case c4 => omega
        case c5 => simp; omega
        intro v' w3 hown' hgrow _
        have R2 := Lib.hid (own_grow hB.size hB (Below.refl _ _) HO.out hgrow)
        have R1 := Lib.hid hown'
        rw [← ints_snoc] at R1
        clear hown' hgrow HO1 HO
        go_wp2
        go_roundw
        case rel => exact ⟨k + 1, xs ++ [y], by omega, by go_num, N1.out, by simp [hxl], R1.out, R2.out⟩
        case measure => simp [intOf]; omega
    · have N1 := Lib.hid (rdK_all (nr 4) s k xs hlt HX.out)
      have RR := Lib.hid (own_ints HO.out)
      have RN := Lib.hid (own_new (n := w.heap.size) HO.out HB.out.size)
      go_wp2
      go_ret2
      exact ⟨hBw, Or.inr ⟨xs, _, N1.out, rfl, RR.out, RN.out⟩⟩
end Go.Proofs.YtoafdacgekmomabGreatDoor
namespace Go.Proofs.YtoafdacgekmomabGreatDoor
open Go.RowKit Cal Txt

/-- The names of the days, as a list that a call makes. -/
def DaysL : Array Value := #[.string ⟨#[]⟩, .string ⟨#[109, 111]⟩, .string ⟨#[116, 117]⟩, .string ⟨#[119, 101]⟩, .string ⟨#[116, 104]⟩, .string ⟨#[102, 114]⟩, .string ⟨#[115, 97]⟩, .string ⟨#[115, 117]⟩]
theorem days_lie (w : World) (t : TypeId) : ∀ j : Nat, j < 8 → (w.alloc (.cells DaysL t)).cell? ⟨w.heap.size, j, none⟩ = some (.string (tb (dn j))) := fun j hj => by
  rcases (by omega : j = 0 ∨ j = 1 ∨ j = 2 ∨ j = 3 ∨ j = 4 ∨ j = 5 ∨ j = 6 ∨ j = 7) with rfl | rfl | rfl | rfl | rfl | rfl | rfl | rfl <;> simp [DaysL] <;> rfl
/-- Which day of the first ones a name is. -/
def fnd (l : List UInt8) (d : Nat) : Int := if dk l < d then dk l else 0
theorem dk_ge (l : List UInt8) : 0 ≤ dk l ∧ dk l ≤ 7 := by
  by_cases h : dk l = 0
  · omega
  · have := dn_dk h; omega
theorem fnd_one (l : List UInt8) : fnd l 1 = 0 := by
  unfold fnd; split
  · have := dk_ge l; omega
  · rfl
theorem fnd_hit {l : List UInt8} {d : Nat} (h1 : 1 ≤ d) (h7 : d ≤ 7) (h : dn d = l) : fnd l (d + 1) = d := by
  have := dk_dn (k := d) (by omega) (by omega)
  rw [h] at this
  unfold fnd; rw [this, if_pos (by omega)]
theorem fnd_skip {l : List UInt8} {d : Nat} (h1 : 1 ≤ d) (h : ¬ dn d = l) : fnd l (d + 1) = fnd l d := by
  unfold fnd
  by_cases q : dk l < d
  · rw [if_pos q, if_pos (by omega)]
  · rw [if_neg q, if_neg (fun k => ?_)]
    have e : dk l = d := by omega
    have := dn_dk (l := l) (by omega)
    rw [e] at this
    exact h this.1
theorem fnd_all (l : List UInt8) : fnd l 8 = dk l := by
  unfold fnd; rw [if_pos (by have := dk_ge l; omega)]
theorem two_new {W : World} {b : Nat} (h : W.heap.size = b) (N k : Int) (t : TypeId) : Two (W.alloc (.cells #[.int .i64 N, .int .i64 k] t)) b N k := by subst h; exact Two.new W N k t
theorem nr_val {x : ByteArray} {m : Nat} {K : Int} (LX : x.data.toList.length = m + 2) (hK : K = dk (x.data.toList.drop (x.data.toList.length - 2))) :
    (K = 0 → Txt.wr x.data.toList = none) ∧ (m = 0 → ¬ K = 0 → Txt.wr x.data.toList = some (0, K)) ∧
    (0 < m → nr 4 (x.data.toList.take (x.data.toList.length - 2)) = none → Txt.wr x.data.toList = none) ∧
    (0 < m → ∀ n, nr 4 (x.data.toList.take (x.data.toList.length - 2)) = some n → n = 0 → Txt.wr x.data.toList = none) ∧
    (0 < m → ∀ n, nr 4 (x.data.toList.take (x.data.toList.length - 2)) = some n → ¬ n = 0 → ¬ K = 0 → Txt.wr x.data.toList = some (n, K)) := by
  subst hK
  unfold Txt.wr
  rw [if_neg (by omega)]
  refine ⟨fun h => by rw [if_pos h], fun h h' => by rw [if_neg h', if_pos (by omega)], fun h h' => ?_, fun h n h' h'' => ?_, fun h n h' h'' hz => ?_⟩
  · split
    · rfl
    · rw [if_neg (by omega), h']
  · split
    · rfl
    · rw [if_neg (by omega), h']; dsimp only; rw [if_pos h'']
  · rw [if_neg hz, if_neg (by omega), h']; dsimp only; rw [if_neg h'']
set_option maxRecDepth 100000 in
set_option maxHeartbeats 4000000 in
theorem refNths (s : ByteArray) (w : World) (hs : s.size ≤ 2000000) :
    Calls Tryz.prog 31 #[.string s] w (ListA Nths w (lr wr s.data.toList)) := by
  obtain ⟨i0, hi, hz0, hz1, hz2⟩ := info_parts info_parseList_nth
  have PL := pcs_le (c := 44) hs
  have HD := Lib.hid (days_lie w 9)
  have B00 := Lib.hid ((Below.refl w.heap.size w).alloc (Nat.le_refl _) (.cells DaysL 9))
  have sz0 : w.heap.size < (w.alloc (.cells DaysL 9)).heap.size := by simp
  go_enter Tryz.func31, Tryz.ntmps31
  go_wp2_with fail
  change Calls Tryz.prog _ _ (w.alloc (.cells DaysL 9)) _
  generalize (w.alloc (.cells DaysL 9)) = W0 at HD B00 sz0 ⊢
  refine (refCut s 44 _ hs).mono ?_
  rintro e W1 ⟨B0, v, rfl, hown0⟩
  have HB := Lib.hid (B00.out.trans (B0.mono B00.out.size))
  have HD1 : Hid (∀ j : Nat, j < 8 → W1.cell? ⟨w.heap.size, j, none⟩ = some (.string (tb (dn j)))) := Lib.hid (fun j hj => (B0.cell (p := ⟨w.heap.size, j, none⟩) sz0).trans (HD.out j hj))
  have hw1 : w.heap.size < W1.heap.size := by have := B0.size; omega
  obtain ⟨g, cap, rfl, hg0, hg1, hcap, hC⟩ := cut_lies hown0
  have HC := Lib.hid hC
  clear hown0 hC B0 HD B00 sz0
  go_wp2
  go_loopw [5, 7] (fun v i wr => ∃ (k : Nat) (xs : List (Int × Int)), k ≤ (pcs 44 s).length ∧ i = .int .i64 k ∧ rdK Txt.wr (pcs 44 s) k = some xs ∧ xs.length = k ∧ wr.ownsRow W1.heap.size 41 2 v k (nthc xs) ∧ Below W1.heap.size W1 wr) (fun _ i _ => (pcs 44 s).length - (intOf i).toNat)
  case atStart => exact ⟨0, [], Nat.zero_le _, rfl, rfl, rfl, World.ownsRow_nil _ _ _ _, Below.refl _ _⟩
  case round =>
    obtain ⟨k, xs, hk, rfl, hx, hxl, hown, hB⟩ := hrel
    rename World => wo
    have HX := Lib.hid hx
    have HO := Lib.hid hown
    have hBw : Below w.heap.size w wo := HB.out.trans (hB.mono HB.out.size)
    clear hx hown
    by_cases hlt : k < (pcs 44 s).length
    · have ck := (hB.cell (p := ⟨g, k, none⟩) hg1).trans (HC.out k hlt)
      obtain ⟨x, hxk⟩ : ∃ x, x = (pcs 44 s)[k] := ⟨_, rfl⟩
      have hsz : x.size ≤ s.size := by rw [hxk]; exact pcs_size 44 s _ (List.getElem_mem hlt)
      rw [← hxk] at ck
      have HXK := Lib.hid hxk
      clear hxk
      by_cases h2 : (x.size : Int) < 2
      · have N0 : Hid (lr Txt.wr s.data.toList = none) := Lib.hid (rdK_none Txt.wr s k hlt (by
          rw [← HXK.out]; unfold Txt.wr; rw [if_pos (by show x.size < 2; omega)]))
        go_wp2
        go_ret2
        exact ⟨hBw, Or.inl ⟨N0.out, rfl⟩⟩
      obtain ⟨m, hm⟩ : ∃ m : Nat, (x.size : Int) - 2 = m := ⟨x.size - 2, by omega⟩
      have hm2 : x.size = m + 2 := by omega
      have T0 := Lib.hid (Two.new wo 0 0 41)
      have F0 : Hid (∀ o, (wo.alloc (.cells #[.int .i64 0, .int .i64 0] 41)).frozen? ⟨wo.heap.size, o, none⟩ = false) := Lib.hid (fun o => by simp)
      have BA := Lib.hid ((Below.refl wo.heap.size wo).alloc (Nat.le_refl _) (.cells #[.int .i64 0, .int .i64 0] 41))
      go_wp2
      generalize (wo.alloc (.cells #[.int .i64 0, .int .i64 0] 41)) = W2 at T0 F0 BA ⊢
      have hgl : g < wo.heap.size := by have := hB.size; omega
      have hwl : w.heap.size < wo.heap.size := by have := hB.size; omega
      have HDw : Hid (∀ j : Nat, j < 8 → wo.cell? ⟨w.heap.size, j, none⟩ = some (.string (tb (dn j)))) := Lib.hid (fun j hj => (hB.cell (p := ⟨w.heap.size, j, none⟩) hw1).trans (HD1.out j hj))
      obtain ⟨t, ht⟩ : ∃ t, t = x.extract m (m + 2) := ⟨_, rfl⟩
      go_loopw [10] (fun i wi => ∃ d : Nat, 1 ≤ d ∧ d ≤ 8 ∧ i = .int .i64 d ∧ Two wi wo.heap.size 0 (fnd t.data.toList d) ∧ (∀ o, wi.frozen? ⟨wo.heap.size, o, none⟩ = false) ∧ Below wo.heap.size wo wi) (fun i _ => 8 - (intOf i).toNat)
      case atStart => exact ⟨1, by omega, by omega, rfl, by rw [fnd_one]; exact T0.out, F0.out, BA.out⟩
      case round =>
        obtain ⟨d, d1, d8, rfl, hT, hF, hBi⟩ := hrel
        have HT := Lib.hid hT
        have HFz := Lib.hid hF
        have ck1 := (hBi.cell (p := ⟨g, k, none⟩) hgl).trans ck
        clear hT hF
        by_cases hd : (d : Int) ≤ 7
        · have cd := (hBi.cell (p := ⟨w.heap.size, d, none⟩) hwl).trans (HDw.out d (by omega))
          by_cases he : dn d = t.data.toList
          · have e1 : ((tb (dn d)).toList == (x.extract m (m + 2)).toList) = true := by rw [← ht, Lib.toList_data, Lib.toList_data, tb_data, he]; simp
            have N1 := Lib.hid (fnd_hit d1 (by omega) he)
            have hl := HT.out.lt
            obtain ⟨q0, q1⟩ := HT.out
            have F1 := HFz.out 1
            clear he
            go_wp2_with fail
            go_quiet (fail)
            go_wp2
            go_roundw
            case rel => exact ⟨d + 1, by omega, by omega, by go_num, by rw [N1.out]; exact ⟨(sc_other _ _ (Or.inr (by decide))).trans (by simpa using q0), sc_same _ (by simpa using q1)⟩, fun o => by simpa using HFz.out o, (below_drewN hBi _).setCell (Nat.le_refl _) _⟩
            case measure => simp [intOf]; omega
          · have e1 : ((tb (dn d)).toList == (x.extract m (m + 2)).toList) = false := by rw [← ht, Lib.toList_data, Lib.toList_data, tb_data]; simpa using he
            have N1 := Lib.hid (fnd_skip d1 he)
            clear he
            go_wp2_with fail
            go_quiet (fail)
            go_wp2
            go_roundw
            case rel => exact ⟨d + 1, by omega, by omega, by go_num, by rw [N1.out]; exact HT.out.on (below_drewN (Below.refl _ _) _), fun o => by simpa using HFz.out o, below_drewN hBi _⟩
            case measure => simp [intOf]; omega
        · obtain rfl : d = 8 := by omega
          have LX : x.data.toList.length = m + 2 := hm2
          have TL : t.data.toList = x.data.toList.drop (x.data.toList.length - 2) := by
            rw [ht, ext_list, LX, List.take_of_length_le (by rw [List.length_drop, LX]; omega)]; rfl
          have hT := HT.out
          rw [fnd_all, TL] at hT
          obtain ⟨K, hK⟩ : ∃ K, K = dk (x.data.toList.drop (x.data.toList.length - 2)) := ⟨_, rfl⟩
          rw [← hK] at hT
          have HK := Lib.hid hK
          obtain ⟨q0, q1⟩ := id hT
          have hl := hT.lt
          have F0' := HFz.out 0
          have BI := hBi
          have BW := hBw.trans (hBi.mono hBw.size)
          have hN := nr_val (x := x) (m := m) LX HK.out
          rcases Nat.eq_zero_or_pos m with h0 | h0
          · subst h0
            rcases hz : (K == 0) with _ | _
            · have hz' : ¬ K = 0 := by simpa using hz
              have N1 := Lib.hid (rdK_next Txt.wr (pcs 44 s) k xs (0, K) hlt HX.out (by rw [← HXK.out]; exact hN.2.1 rfl hz'))
              clear hN hz' hK TL hT
              have HX0 := Lib.hid BI
              have HO1 := Lib.hid (own_below HO.out BI)
              have sz : W1.heap.size ≤ (wr).heap.size := by have h1 := BI.size; have h2 := hB.size; omega
              go_wp2_with (at_builtin; refine wpList_append_own _ rfl _ _ 23 rfl W1.heap.size 41 i0 (.agg #[.int .i64 0, .int .i64 0]) 2 16 Tryz.underlying23 hi hz0 hz1 hz2 rfl (by decide) _ _ _ rfl (HO1.out.alloc _) ⟨wr.heap.size, 0, none⟩ 1 1 [.int .i64 0, .int .i64 K] rfl rfl ?c1 ?c2 ?c3 ?c4 ?c5 ?_)
              case c2 => exact ⟨rfl, rfl⟩
              case c3 => unfold maxLen; omega
              case c4 => omega
              case c5 => first | omega | (simp; omega)
              intro v' w3 hown' hgrow _
              have R2 := Lib.hid (own_grow hB.size hB HX0.out HO.out hgrow)
              have R1 := Lib.hid hown'
              rw [← nths_snoc xs (0, K)] at R1
              clear hown' hgrow HO1 HO HX0
              go_wp2
              go_roundw
              case rel => exact ⟨k + 1, xs ++ [(0, K)], by omega, by go_num, N1.out, by simp [hxl], R1.out, R2.out⟩
              case measure => simp [intOf]; omega
            · have hz' : K = 0 := by simpa using hz
              have N0 : Hid (lr Txt.wr s.data.toList = none) := Lib.hid (rdK_none Txt.wr s k hlt (by rw [← HXK.out]; exact hN.1 hz'))
              clear hN hz' hK TL hT
              go_wp2
              go_ret2
              exact ⟨BW, Or.inl ⟨N0.out, rfl⟩⟩
          · have KN := Lib.hid (refNumber (x.extract 0 m) wr (by simp; omega))
            have TK : (x.extract 0 m).data.toList = x.data.toList.take (x.data.toList.length - 2) := by rw [ext_list, LX]; simp
            rw [TK] at KN
            have h0' : (0 : Int) < m := by omega
            rcases hr : nr 4 (x.data.toList.take (x.data.toList.length - 2)) with _ | n
            · have N0 : Hid (lr Txt.wr s.data.toList = none) := Lib.hid (rdK_none Txt.wr s k hlt (by rw [← HXK.out]; exact hN.2.2.1 h0 hr))
              rw [hr, numA_none rfl] at KN
              clear hN hK TL hT hr TK
              go_wp2_with fail
              refine KN.out.mono ?_
              rintro e w2 ⟨rfl, hw⟩
              subst hw
              go_wp2
              go_ret2
              exact ⟨BW, Or.inl ⟨N0.out, rfl⟩⟩
            · rw [hr, numA_some rfl] at KN
              rcases hn : (n == 0) with _ | _
              · have hn' : ¬ n = 0 := by simpa using hn
                rcases hz : (K == 0) with _ | _
                · have hz' : ¬ K = 0 := by simpa using hz
                  have N1 := Lib.hid (rdK_next Txt.wr (pcs 44 s) k xs (n, K) hlt HX.out (by rw [← HXK.out]; exact hN.2.2.2.2 h0 n hr hn' hz'))
                  clear hN hz' hK TL hT hr TK hn'
                  go_wp2_with fail
                  refine KN.out.mono ?_
                  rintro e w2 ⟨rfl, hw⟩
                  subst hw
                  have BI := BI.setCell (p := ⟨wo.heap.size, 0, none⟩) (Nat.le_refl _) (.int .i64 n)
                  have HX0 := Lib.hid BI
                  have HO1 := Lib.hid (own_below HO.out BI)
                  have sz : W1.heap.size ≤ (w2.setCell ⟨wo.heap.size, 0, none⟩ (.int .i64 n)).heap.size := by have h1 := BI.size; have h2 := hB.size; omega
                  have sz' : W1.heap.size ≤ w2.heap.size := by simpa using sz
                  have TN := Lib.hid (two_new (W := w2.setCell ⟨wo.heap.size, 0, none⟩ (.int .i64 n)) (b := w2.heap.size) (by simp) n K 41)
                  go_wp2_with (at_builtin; refine wpList_append_own _ rfl _ _ 23 rfl W1.heap.size 41 i0 (.agg #[.int .i64 0, .int .i64 0]) 2 16 Tryz.underlying23 hi hz0 hz1 hz2 rfl (by decide) _ _ _ rfl (HO1.out.alloc _) ⟨w2.heap.size, 0, none⟩ 1 1 [.int .i64 n, .int .i64 K] rfl rfl ?e1 ?e2 ?e3 ?e4 ?e5 ?_)
                  case e1 =>
                    intro j u hj
                    match j, hj with
                    | 0, hj => simp at hj; subst hj; simp [Addr.add]; exact TN.out.1
                    | 1, hj => simp at hj; subst hj; simp [Addr.add]; exact TN.out.2
                  case e2 => first | exact ⟨rfl, rfl⟩ | (intro u hu; simp at hu; rcases hu with rfl | rfl <;> rfl)
                  case e3 => unfold maxLen; omega
                  case e4 => omega
                  case e5 => first | omega | (simp; omega)
                  intro v' w3 hown' hgrow _
                  have R2 := Lib.hid (own_grow hB.size hB HX0.out HO.out hgrow)
                  have R1 := Lib.hid hown'
                  rw [← nths_snoc xs (n, K)] at R1
                  clear hown' hgrow HO1 HO HX0
                  go_wp2
                  go_roundw
                  case rel => exact ⟨k + 1, xs ++ [(n, K)], by omega, by go_num, N1.out, by simp [hxl], R1.out, R2.out⟩
                  case measure => simp [intOf]; omega
                · have hz' : K = 0 := by simpa using hz
                  have N0 : Hid (lr Txt.wr s.data.toList = none) := Lib.hid (rdK_none Txt.wr s k hlt (by rw [← HXK.out]; exact hN.1 hz'))
                  clear hN hz' hK TL hT hr TK hn'
                  go_wp2_with fail
                  refine KN.out.mono ?_
                  rintro e w2 ⟨rfl, hw⟩
                  subst hw
                  go_wp2
                  go_ret2
                  exact ⟨BW.setCell hBw.size _, Or.inl ⟨N0.out, rfl⟩⟩
              · have hn' : n = 0 := by simpa using hn
                have N0 : Hid (lr Txt.wr s.data.toList = none) := Lib.hid (rdK_none Txt.wr s k hlt (by rw [← HXK.out]; exact hN.2.2.2.1 h0 n hr hn'))
                clear hN hK TL hT hr TK hn'
                go_wp2_with fail
                refine KN.out.mono ?_
                rintro e w2 ⟨rfl, hw⟩
                subst hw
                go_wp2
                go_ret2
                exact ⟨BW, Or.inl ⟨N0.out, rfl⟩⟩
    · have N1 := Lib.hid (rdK_all Txt.wr s k xs hlt HX.out)
      have RR := Lib.hid (own_nths HO.out)
      have RN := Lib.hid (own_new (n := w.heap.size) HO.out HB.out.size)
      go_wp2
      go_ret2
      exact ⟨hBw, Or.inr ⟨xs, _, N1.out, rfl, RR.out, RN.out⟩⟩
end Go.Proofs.YtoafdacgekmomabGreatDoor
