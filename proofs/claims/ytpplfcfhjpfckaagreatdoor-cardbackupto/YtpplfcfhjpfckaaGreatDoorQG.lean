/-
  What is proved here: what package rule's parseList answers (contracts over the translation).
  What is proved here: what package rule's parseList of weekdays answers (a contract over the translation).
-/
import Derived.Test.YtpplfcfhjpfckaaGreatDoorQW
namespace Go.Proofs.YtpplfcfhjpfckaaGreatDoor
open Go.RowKit Cal Txt

theorem mapO_none {α : Type} (rd : List UInt8 → Option α) : ∀ (ws : List (List UInt8)) (x : List UInt8), x ∈ ws → rd x = none → mapO rd ws = none
  | [], _, h, _ => by cases h
  | a :: r, x, h, hx => by
    unfold mapO
    rcases List.mem_cons.1 h with rfl | k
    · rw [hx]
    · rw [mapO_none rd r x k hx]
      split <;> first | rfl | (rename_i e _; cases e) | rfl
theorem mapO_snoc {α : Type} (rd : List UInt8 → Option α) : ∀ (ws : List (List UInt8)) (xs : List α) (x : List UInt8) (y : α), mapO rd ws = some xs → rd x = some y → mapO rd (ws ++ [x]) = some (xs ++ [y])
  | [], xs, x, y, h, hx => by
    have : xs = [] := by unfold mapO at h; exact (Option.some.inj h).symm
    subst this
    show mapO rd [x] = some [y]
    unfold mapO
    rw [hx]
    rfl
  | a :: r, xs, x, y, h, hx => by
    show mapO rd (a :: (r ++ [x])) = _
    unfold mapO at h ⊢
    rcases ha : rd a with _ | v
    · rw [ha] at h; cases h
    · rw [ha] at h
      rcases hr : mapO rd r with _ | vs
      · rw [hr] at h; cases h
      · rw [hr] at h
        have : xs = v :: vs := (Option.some.inj h).symm
        subst this
        rw [mapO_snoc rd r vs x y hr hx]
        rfl
theorem mapO_len {α : Type} (rd : List UInt8 → Option α) : ∀ (ws : List (List UInt8)) (xs : List α), mapO rd ws = some xs → xs.length = ws.length
  | [], xs, h => by
    have : xs = [] := by unfold mapO at h; exact (Option.some.inj h).symm
    subst this; rfl
  | a :: r, xs, h => by
    unfold mapO at h
    rcases ha : rd a with _ | v
    · rw [ha] at h; cases h
    · rw [ha] at h
      rcases hr : mapO rd r with _ | vs
      · rw [hr] at h; cases h
      · rw [hr] at h
        have : xs = v :: vs := (Option.some.inj h).symm
        subst this
        rw [List.length_cons, List.length_cons, mapO_len rd r vs hr]
/-- What the first pieces are read as. -/
def rdK {α : Type} (rd : List UInt8 → Option α) (ps : List ByteArray) (k : Nat) : Option (List α) := mapO rd ((ps.take k).map (·.data.toList))
theorem rdK_next {α : Type} (rd : List UInt8 → Option α) (ps : List ByteArray) (k : Nat) (xs : List α) (y : α) (h : k < ps.length) (hx : rdK rd ps k = some xs) (hy : rd (ps[k]).data.toList = some y) : rdK rd ps (k + 1) = some (xs ++ [y]) := by
  unfold rdK
  rw [List.take_succ_eq_append_getElem h, List.map_append]
  exact mapO_snoc rd _ _ _ _ hx hy
theorem rdK_none {α : Type} (rd : List UInt8 → Option α) (s : ByteArray) (k : Nat) (h : k < (pcs 44 s).length) (hy : rd ((pcs 44 s)[k]).data.toList = none) : lr rd s.data.toList = none := by
  unfold lr
  rw [← pcs_cut]
  exact mapO_none rd _ _ (List.mem_map.2 ⟨_, List.getElem_mem h, rfl⟩) hy
theorem rdK_all {α : Type} (rd : List UInt8 → Option α) (s : ByteArray) (k : Nat) (xs : List α) (h : ¬ k < (pcs 44 s).length) (hx : rdK rd (pcs 44 s) k = some xs) : lr rd s.data.toList = some xs := by
  unfold lr
  rw [← pcs_cut]
  unfold rdK at hx
  rwa [List.take_of_length_le (by omega)] at hx
theorem own_grow {w wr w1 w2 : World} {B : Nat} {e : TypeId} {sz : Nat} {v : Value} {k : Nat} {ys : List Value} {o : Obj} (hB : B ≤ wr.heap.size) (hb : Below B w wr) (hx : Below wr.heap.size wr w1)
    (hown : wr.ownsRow B e sz v k ys) (hgrow : (w1.alloc o).grownBy w2 v.ownBlock) : Below B w w2 := by
  have h1 : Below B w w1 := hb.trans (hx.mono hB)
  have hs := hx.size
  refine (h1.alloc (by omega) o).grown hgrow (by simp; omega) (fun j hj => ?_)
  have := (hown.lt j hj).1
  omega
/-- A piece's bytes are no more than the text's. -/
theorem pcs_size (c : UInt8) (s : ByteArray) : ∀ x ∈ pcs c s, x.size ≤ s.size := fun x hx => by
  have h1 : x.data.toList ∈ cutAt c s.data.toList := by rw [← pcs_cut]; exact List.mem_map.2 ⟨x, hx, rfl⟩
  have h2 : ∀ (l w : List UInt8), w ∈ cutAt c l → w.length ≤ l.length := fun l => by
    intro w hw
    have hj := join_cut c l
    have : ∀ (ws : List (List UInt8)), w ∈ ws → w.length ≤ (joinBy c ws).length := fun ws => by
      induction ws with
      | nil => intro h; cases h
      | cons a r ih =>
        intro h
        cases r with
        | nil =>
          rcases List.mem_cons.1 h with rfl | k
          · exact Nat.le_refl _
          · cases k
        | cons b r =>
          rw [joinBy_cons _ _ (by simp), List.length_append, List.length_cons]
          rcases List.mem_cons.1 h with rfl | k
          · omega
          · have := ih k; omega
    have := this _ hw
    rwa [hj] at this
  have := h2 _ _ h1
  simpa using this
/-- What a slice names lies in a block from a number on. -/
def NewB (n : Nat) (v : Value) : Prop := ∀ a k c, v = .slice (some a) k c → n ≤ a.block
theorem own_new {W : World} {base n : Nat} {e : TypeId} {sz : Nat} {v : Value} {m : Nat} {ys : List Value} (h : W.ownsRow base e sz v m ys) (hn : n ≤ base) : NewB n v := fun a k c hv => by
  have := (h.lt a.block (by rw [hv]; rfl)).1
  omega
/-- What is answered of a list that was read, or not. -/
def ListA {α : Type} (R : World → Value → List α → Prop) (w : World) (o : Option (List α)) (e : Ending) (w' : World) : Prop :=
  Below w.heap.size w w' ∧ ((o = none ∧ e = .returned (.tuple #[.slice none 0 0, .bool false])) ∨ ∃ xs v, o = some xs ∧ e = .returned (.tuple #[v, .bool true]) ∧ R w' v xs ∧ NewB w.heap.size v)
/-- Numbers as cells. -/
def ints (xs : List Int) : List Value := xs.map (Value.int .i64)
theorem ints_snoc (xs : List Int) (y : Int) : ints (xs ++ [y]) = ints xs ++ [.int .i64 y] := by simp [ints]
theorem own_ints {W : World} {base : Nat} {e : TypeId} {v : Value} {n : Nat} {xs : List Int} (h : W.ownsRow base e 1 v n (ints xs)) : Ints W v xs := by
  have hl : xs.length = n := by have := h.1; simpa [ints] using this
  rcases h.2 with ⟨hv, h0⟩ | ⟨g, cap, cur, hv, hb, hg, hc, hm, hs, ht⟩
  · exact ⟨none, 0, by rw [hv, hl, h0], Or.inl (List.eq_nil_of_length_eq_zero (by omega))⟩
  · refine ⟨some ⟨g, 0, none⟩, cap, by rw [hv, hl], Or.inr ⟨g, 0, rfl, fun i hi => ?_⟩⟩
    have := h.cells (g := g) (by rw [hv]; rfl) i (.int .i64 (xs.getD i 0)) (by unfold ints; rw [List.getElem?_map, List.getElem?_eq_getElem hi, List.getD_eq_getElem?_getD, List.getElem?_eq_getElem hi]; rfl)
    have hadd : (⟨g, 0, none⟩ : Addr).add i = ⟨g, 0 + i, none⟩ := by unfold Addr.add; split <;> simp_all
    rw [hadd] at this
    exact this
theorem info_parseList_int : (Tryz.prog.info? 3).map (fun i => (i.zero, i.size, i.bytes)) = some (some (.int .i64 0), 1, 8) := by kernel_rfl
set_option maxRecDepth 100000 in
set_option maxHeartbeats 2000000 in
theorem parseList_int (g : FuncId) (rd : List UInt8 → Option (Int)) (eg : ∀ args w, (callFunc g args).run Tryz.prog w = .ok (.enter g args) w) (s : ByteArray) (w : World) (hs : s.size ≤ 2000000)
    (hg : ∀ x, x.size ≤ s.size → ∀ W, Below w.heap.size w W → Calls Tryz.prog g #[.string x] W fun e w' => e = .returned (numA (rd x.data.toList)) ∧ Below W.heap.size W w') :
    Calls Tryz.prog 143 #[.string s, .func (.func g) #[] #[]] w (ListA Ints w (lr rd s.data.toList)) := by
  obtain ⟨i0, hi, hz0, hz1, hz2⟩ := info_parts info_parseList_int
  have HG := Lib.hid hg
  clear hg
  have B0 : Below w.heap.size w (w.alloc (.cells ((pcs 44 s).map Value.string).toArray 9)) := (Below.refl _ _).alloc (Nat.le_refl _) _
  have HB := Lib.hid B0
  have HC : Hid (∀ k (h : k < (pcs 44 s).length), (w.alloc (.cells ((pcs 44 s).map Value.string).toArray 9)).cell? ⟨w.heap.size, k, none⟩ = some (.string (pcs 44 s)[k])) := Lib.hid (fun k h => by simp [h])
  have PL : (pcs 44 s).length ≤ 2000001 := by
    rw [pcs_len]
    have := List.count_le_length (a := (44 : UInt8)) (l := s.data.toList)
    have e : s.data.toList.length = s.size := rfl
    omega
  clear B0
  go_enter Tryz.func143, Tryz.ntmps143
  go_wp2_with fail
  refine (split_one s 44 _ (by omega)).mono ?_
  rintro e w1 ⟨rfl, hw⟩
  subst hw
  have sz1 : w.heap.size < (w.alloc (.cells ((pcs 44 s).map Value.string).toArray 9)).heap.size := by simp
  generalize hW1 : w.alloc (.cells ((pcs 44 s).map Value.string).toArray 9) = W1 at HB HC sz1 ⊢
  clear hW1
  go_wp2
  go_loopw [6, 14] (fun v i wr => ∃ (k : Nat) (xs : List (Int)), k ≤ (pcs 44 s).length ∧ i = .int .i64 k ∧ rdK rd (pcs 44 s) k = some xs ∧ xs.length = k ∧ wr.ownsRow W1.heap.size 3 1 v k (ints xs) ∧ Below W1.heap.size W1 wr) (fun _ i _ => (pcs 44 s).length - (intOf i).toNat)
  case atStart => exact ⟨0, [], Nat.zero_le _, rfl, rfl, rfl, World.ownsRow_nil _ _ _ _, Below.refl _ _⟩
  case round =>
    obtain ⟨k, xs, hk, rfl, hx, hxl, hown, hB⟩ := hrel
    have HX := Lib.hid hx
    have HO := Lib.hid hown
    have hBw : Below w.heap.size w wr := HB.out.trans (hB.mono HB.out.size)
    clear hx hown
    by_cases hlt : k < (pcs 44 s).length
    · have ck := (hB.cell (p := ⟨w.heap.size, k, none⟩) sz1).trans (HC.out k hlt)
      obtain ⟨x, hxk⟩ : ∃ x, x = (pcs 44 s)[k] := ⟨_, rfl⟩
      have hsz : x.size ≤ s.size := by rw [hxk]; exact pcs_size 44 s _ (List.getElem_mem hlt)
      rw [← hxk] at ck
      have HXK := Lib.hid hxk
      clear hxk
      go_wp2_with fail
      refine (HG.out x hsz _ hBw).mono ?_
      rintro e w2 ⟨rfl, hb⟩
      rcases hr : rd x.data.toList with _ | y
      · have N0 : Hid (lr rd s.data.toList = none) := Lib.hid (rdK_none rd s k hlt (by rw [← HXK.out]; exact hr))
        have hB2 := hBw.trans (hb.mono hBw.size)
        clear hr
        rw [numA_none rfl]
        go_wp2
        go_ret2
        exact ⟨hB2, Or.inl ⟨N0.out, rfl⟩⟩
      · have N1 := Lib.hid (rdK_next rd (pcs 44 s) k xs y hlt HX.out (by rw [← HXK.out]; exact hr))
        clear hr
        rw [numA_some rfl]
        have HX0 := Lib.hid hb
        have HO1 := Lib.hid (own_below HO.out hb)
        have sz : W1.heap.size ≤ w2.heap.size := by have := hb.size; have := hB.size; omega
        clear hb
        go_wp2_with (at_builtin; refine wpList_append_own _ rfl _ _ 22 rfl W1.heap.size 3 i0 (.int .i64 0) 1 8 Tryz.underlying22 hi hz0 hz1 hz2 rfl (by decide) _ _ _ rfl (HO1.out.alloc _) ⟨w2.heap.size, 0, none⟩ 1 1 [.int .i64 y] rfl rfl ?c1 ?c2 ?c3 ?c4 ?c5 ?_)
        case c1 =>
          intro j u hj
          match j, hj with
          | 0, hj => simp at hj; subst hj; simp [Addr.add]
        case c2 => intro u hu; simp at hu; subst hu; rfl
        case c3 => unfold maxLen; omega
        case c4 => omega
        case c5 => simp; omega
        intro v' w3 hown' hgrow _
        have R2 := Lib.hid (own_grow hB.size hB HX0.out HO.out hgrow)
        have R1 := Lib.hid hown'
        rw [← ints_snoc] at R1
        clear hown' hgrow HO1 HO HX0
        go_wp2
        go_roundw
        case rel => exact ⟨k + 1, xs ++ [y], by omega, by go_num, N1.out, by simp [hxl], R1.out, R2.out⟩
        case measure => simp [intOf]; omega
    · have N1 := Lib.hid (rdK_all rd s k xs hlt HX.out)
      have RR := Lib.hid (own_ints HO.out)
      have RN := Lib.hid (own_new (n := w.heap.size) HO.out (by omega))
      go_wp2
      go_ret2
      exact ⟨hBw, Or.inr ⟨xs, _, N1.out, rfl, RR.out, RN.out⟩⟩
end Go.Proofs.YtpplfcfhjpfckaaGreatDoor
namespace Go.Proofs.YtpplfcfhjpfckaaGreatDoor
open Go.RowKit Cal Txt

/-- Weekdays as cells. -/
def nthc (xs : List (Int × Int)) : List Value := xs.flatMap fun x => [.int .i64 x.1, .int .i64 x.2]
theorem nths_snoc (xs : List (Int × Int)) (y : Int × Int) : nthc (xs ++ [y]) = nthc xs ++ [.int .i64 y.1, .int .i64 y.2] := by simp [nthc]
theorem nthc_len (xs : List (Int × Int)) : (nthc xs).length = xs.length * 2 := by
  induction xs with
  | nil => rfl
  | cons a r ih => show ([_, _] ++ nthc r).length = _; rw [List.length_append, ih, List.length_cons]; simp; omega
theorem nthc_at : ∀ (xs : List (Int × Int)) (i : Nat), i < xs.length → (nthc xs)[i * 2]? = some (.int .i64 (xs.getD i (0, 0)).1) ∧ (nthc xs)[i * 2 + 1]? = some (.int .i64 (xs.getD i (0, 0)).2)
  | a :: r, 0, _ => ⟨rfl, rfl⟩
  | a :: r, i + 1, h => by
    have ih := nthc_at r i (by simpa using h)
    have e1 : (i + 1) * 2 = i * 2 + 2 := by omega
    show (Value.int .i64 a.1 :: Value.int .i64 a.2 :: nthc r)[(i + 1) * 2]? = _ ∧ (Value.int .i64 a.1 :: Value.int .i64 a.2 :: nthc r)[(i + 1) * 2 + 1]? = _
    rw [e1, show i * 2 + 2 + 1 = i * 2 + 1 + 2 by omega]
    simpa using ih
theorem own_nths {W : World} {base : Nat} {e : TypeId} {v : Value} {n : Nat} {xs : List (Int × Int)} (h : W.ownsRow base e 2 v n (nthc xs)) : Nths W v xs := by
  have hl : xs.length = n := by have := h.1; rw [nthc_len] at this; omega
  rcases h.2 with ⟨hv, h0⟩ | ⟨g, cap, cur, hv, hb, hg, hc, hm, hs, ht⟩
  · exact ⟨none, 0, by rw [hv, hl, h0], Or.inl (List.eq_nil_of_length_eq_zero (by omega))⟩
  · refine ⟨some ⟨g, 0, none⟩, cap, by rw [hv, hl], Or.inr ⟨g, 0, rfl, fun i hi => ?_⟩⟩
    have hadd : ∀ j, (⟨g, 0, none⟩ : Addr).add j = ⟨g, 0 + j, none⟩ := fun j => by unfold Addr.add; split <;> simp_all
    obtain ⟨q1, q2⟩ := nthc_at xs i hi
    have c1 := h.cells (g := g) (by rw [hv]; rfl) _ _ q1
    have c2 := h.cells (g := g) (by rw [hv]; rfl) _ _ q2
    rw [hadd] at c1 c2
    exact ⟨c1, by rw [Nat.add_assoc]; exact c2⟩
/-- What is answered of a weekday that was read, or not. -/
def nthA (o : Option (Int × Int)) (v : Value) : Prop := (o = none ∧ ∃ a b, v = .tuple #[.agg #[.int .i64 a, .int .i64 b], .bool false]) ∨ ∃ x, o = some x ∧ v = .tuple #[.agg #[.int .i64 x.1, .int .i64 x.2], .bool true]
theorem info_parseList_nth : (Tryz.prog.info? 109).map (fun i => (i.zero, i.size, i.bytes)) = some (some (.agg #[.int .i64 0, .int .i64 0]), 2, 16) := by kernel_rfl
set_option maxRecDepth 100000 in
set_option maxHeartbeats 2000000 in
theorem parseList_nth (g : FuncId) (rd : List UInt8 → Option (Int × Int)) (eg : ∀ args w, (callFunc g args).run Tryz.prog w = .ok (.enter g args) w) (s : ByteArray) (w : World) (hs : s.size ≤ 2000000)
    (hg : ∀ x, x.size ≤ s.size → ∀ W, Below w.heap.size w W → Calls Tryz.prog g #[.string x] W fun e w' => ∃ v, e = .returned v ∧ nthA (rd x.data.toList) v ∧ Below W.heap.size W w') :
    Calls Tryz.prog 144 #[.string s, .func (.func g) #[] #[]] w (ListA Nths w (lr rd s.data.toList)) := by
  obtain ⟨i0, hi, hz0, hz1, hz2⟩ := info_parts info_parseList_nth
  have HG := Lib.hid hg
  clear hg
  have B0 : Below w.heap.size w (w.alloc (.cells ((pcs 44 s).map Value.string).toArray 9)) := (Below.refl _ _).alloc (Nat.le_refl _) _
  have HB := Lib.hid B0
  have HC : Hid (∀ k (h : k < (pcs 44 s).length), (w.alloc (.cells ((pcs 44 s).map Value.string).toArray 9)).cell? ⟨w.heap.size, k, none⟩ = some (.string (pcs 44 s)[k])) := Lib.hid (fun k h => by simp [h])
  have PL : (pcs 44 s).length ≤ 2000001 := by
    rw [pcs_len]
    have := List.count_le_length (a := (44 : UInt8)) (l := s.data.toList)
    have e : s.data.toList.length = s.size := rfl
    omega
  clear B0
  go_enter Tryz.func144, Tryz.ntmps144
  go_wp2_with fail
  refine (split_one s 44 _ (by omega)).mono ?_
  rintro e w1 ⟨rfl, hw⟩
  subst hw
  have sz1 : w.heap.size < (w.alloc (.cells ((pcs 44 s).map Value.string).toArray 9)).heap.size := by simp
  generalize hW1 : w.alloc (.cells ((pcs 44 s).map Value.string).toArray 9) = W1 at HB HC sz1 ⊢
  clear hW1
  go_wp2
  go_loopw [6, 14] (fun v i wr => ∃ (k : Nat) (xs : List (Int × Int)), k ≤ (pcs 44 s).length ∧ i = .int .i64 k ∧ rdK rd (pcs 44 s) k = some xs ∧ xs.length = k ∧ wr.ownsRow W1.heap.size 109 2 v k (nthc xs) ∧ Below W1.heap.size W1 wr) (fun _ i _ => (pcs 44 s).length - (intOf i).toNat)
  case atStart => exact ⟨0, [], Nat.zero_le _, rfl, rfl, rfl, World.ownsRow_nil _ _ _ _, Below.refl _ _⟩
  case round =>
    obtain ⟨k, xs, hk, rfl, hx, hxl, hown, hB⟩ := hrel
    have HX := Lib.hid hx
    have HO := Lib.hid hown
    have hBw : Below w.heap.size w wr := HB.out.trans (hB.mono HB.out.size)
    clear hx hown
    by_cases hlt : k < (pcs 44 s).length
    · have ck := (hB.cell (p := ⟨w.heap.size, k, none⟩) sz1).trans (HC.out k hlt)
      obtain ⟨x, hxk⟩ : ∃ x, x = (pcs 44 s)[k] := ⟨_, rfl⟩
      have hsz : x.size ≤ s.size := by rw [hxk]; exact pcs_size 44 s _ (List.getElem_mem hlt)
      rw [← hxk] at ck
      have HXK := Lib.hid hxk
      clear hxk
      go_wp2_with fail
      refine (HG.out x hsz _ hBw).mono ?_
      rintro e w2 ⟨v2, rfl, hv2, hb0⟩
      rcases hv2 with ⟨hr, na, nb, rfl⟩ | ⟨y, hr, rfl⟩
      · have N0 : Hid (lr rd s.data.toList = none) := Lib.hid (rdK_none rd s k hlt (by rw [← HXK.out]; exact hr))
        have hB1 := hBw.trans (hb0.mono hBw.size)
        have hB2 := hB1.alloc hB1.size (.cells #[.int .i64 na, .int .i64 nb] 109)
        clear hb0 hB1
        clear hr
        go_wp2
        go_ret2
        exact ⟨hB2, Or.inl ⟨N0.out, rfl⟩⟩
      · have N1 := Lib.hid (rdK_next rd (pcs 44 s) k xs y hlt HX.out (by rw [← HXK.out]; exact hr))
        clear hr
        have hb := hb0.alloc hb0.size (.cells #[.int .i64 y.1, .int .i64 y.2] 109)
        clear hb0
        have HX0 := Lib.hid hb
        have HO1 := Lib.hid (own_below HO.out hb)
        have sz : W1.heap.size ≤ w2.heap.size + 1 := by have h1 := hb.size; have h2 := hB.size; simp at h1; omega
        clear hb
        go_wp2_with (at_builtin; refine wpList_append_own _ rfl _ _ 23 rfl W1.heap.size 109 i0 (.agg #[.int .i64 0, .int .i64 0]) 2 16 Tryz.underlying23 hi hz0 hz1 hz2 rfl (by decide) _ _ _ rfl (HO1.out.alloc _) ⟨w2.heap.size + 1, 0, none⟩ 1 1 [.int .i64 y.1, .int .i64 y.2] rfl rfl ?c1 ?c2 ?c3 ?c4 ?c5 ?_)
        case c1 =>
          intro j u hj
          match j, hj with
          | 0, hj => simp at hj; subst hj; simp [Addr.add]
          | 1, hj => simp at hj; subst hj; simp [Addr.add]
        case c2 => intro u hu; simp at hu; rcases hu with rfl | rfl <;> rfl
        case c3 => unfold maxLen; omega
        case c4 => omega
        case c5 => simp; omega
        intro v' w3 hown' hgrow _
        have R2 := Lib.hid (own_grow hB.size hB HX0.out HO.out hgrow)
        have R1 := Lib.hid hown'
        rw [← nths_snoc] at R1
        clear hown' hgrow HO1 HO HX0
        go_wp2
        go_roundw
        case rel => exact ⟨k + 1, xs ++ [y], by omega, by go_num, N1.out, by simp [hxl], R1.out, R2.out⟩
        case measure => simp [intOf]; omega
    · have N1 := Lib.hid (rdK_all rd s k xs hlt HX.out)
      have RR := Lib.hid (own_nths HO.out)
      have RN := Lib.hid (own_new (n := w.heap.size) HO.out (by omega))
      go_wp2
      go_ret2
      exact ⟨hBw, Or.inr ⟨xs, _, N1.out, rfl, RR.out, RN.out⟩⟩
end Go.Proofs.YtpplfcfhjpfckaaGreatDoor
