/-
  What is proved here: what the document's put answers (a contract over the translation).
-/
import Derived.Test.YtnnpnalfkcngmadGreatDoorBW
import Derived.BigQuiet
import Derived.Deep.Cut
namespace Go.Proofs.YtnnpnalfkcngmadGreatDoor
open Go.RowKit Cal Txt

/-- A list with a number put into it. -/
def PutR (l : List Int) (n : Int) (r : List Int) : Prop := (l.Pairwise (· < ·) → r.Pairwise (· < ·) ∧ ∀ x, x ∈ r ↔ x ∈ l ∨ x = n) ∧ r.length ≤ l.length + 1
theorem put_same {l : List Int} {n : Int} (h : n ∈ l) : PutR l n l :=
  ⟨fun hl => ⟨hl, fun x => ⟨Or.inl, fun q => q.elim id (fun e => e ▸ h)⟩⟩, by omega⟩
theorem put_new {l : List Int} {n : Int} {k : Nat} (hk : k ≤ l.length) (h1 : ∀ i, k ≤ i → i < l.length → n < l.getD i 0) (h2 : 0 < k → l.getD (k - 1) 0 < n) : PutR l n (l.take k ++ (n :: l.drop k)) := by
  refine ⟨fun hl => ⟨?_, fun x => ?_⟩, by simp; omega⟩
  · have ht : ∀ x ∈ l.take k, x < n := fun x hx => by
      obtain ⟨i, hi, e⟩ := List.getElem_of_mem hx
      rw [List.length_take] at hi
      rw [List.getElem_take] at e
      have q := h2 (by omega)
      rw [List.getD_eq_getElem?_getD, List.getElem?_eq_getElem (by omega)] at q
      simp only [Option.getD_some] at q
      rcases Nat.lt_or_ge i (k - 1) with z | z
      · have := List.pairwise_iff_getElem.1 hl i (k - 1) (by omega) (by omega) z
        omega
      · have : i = k - 1 := by omega
        subst this
        omega
    have hd : ∀ x ∈ l.drop k, n < x := fun x hx => by
      obtain ⟨i, hi, e⟩ := List.getElem_of_mem hx
      rw [List.length_drop] at hi
      rw [List.getElem_drop] at e
      have q := h1 (k + i) (by omega) (by omega)
      rw [List.getD_eq_getElem?_getD, List.getElem?_eq_getElem (by omega)] at q
      simp only [Option.getD_some] at q
      omega
    refine List.pairwise_append.2 ⟨hl.take, List.pairwise_cons.2 ⟨hd, hl.drop⟩, fun x hx y hy => ?_⟩
    rcases List.mem_cons.1 hy with e | e
    · rw [e]; exact ht x hx
    · have := ht x hx; have := hd y e; omega
  · rw [List.mem_append, List.mem_cons]
    constructor
    · rintro (q | q | q)
      · exact Or.inl (List.mem_of_mem_take q)
      · exact Or.inr q
      · exact Or.inl (List.mem_of_mem_drop q)
    · rintro (q | q)
      · rw [← List.take_append_drop k l] at q
        rcases List.mem_append.1 q with z | z
        · exact Or.inl z
        · exact Or.inr (Or.inr z)
      · exact Or.inr (Or.inl q)
/-- A slice that is nil, or stands in a block, with room enough. -/
def Frl (v : Value) (l : List Int) : Prop := (v = .slice none 0 0 ∧ l = []) ∨ ∃ b off cap, v = .slice (some ⟨b, off, none⟩) l.length cap ∧ l.length ≤ cap
/-- What put answers. -/
def PutA (w : World) (l : List Int) (n : Int) (e : Ending) (w' : World) : Prop := ∃ u r, e = .returned u ∧ Ints w' u r ∧ Frl u r ∧ PutR l n r ∧ Below w.heap.size w w'
theorem own_frl {w : World} {n0 : Nat} {v : Value} {l : List Int} (h : w.ownsRow n0 3 1 v l.length (nums l)) : Frl v l := by
  rcases own_hol h with ⟨q, q2⟩ | ⟨g, cap, q, _, hc, _, _⟩
  · exact Or.inl ⟨q, q2⟩
  · exact Or.inr ⟨g, 0, cap, q, hc⟩
theorem ints_take {w : World} {a : Option Addr} {l : List Int} {cap k : Nat} (h : Ints w (.slice a l.length cap) l) (hk : k ≤ l.length) : Ints w (.slice a k cap) (l.take k) := by
  obtain ⟨a', c', e, hc⟩ := h
  obtain ⟨rfl, rfl⟩ : a = a' ∧ cap = c' := by simpa using e
  refine ⟨a, cap, by rw [List.length_take, Nat.min_eq_left hk], ?_⟩
  rcases hc with rfl | ⟨b, off, ea, hc⟩
  · exact Or.inl (by simp)
  · refine Or.inr ⟨b, off, ea, fun i hi => ?_⟩
    rw [List.length_take] at hi
    rw [hc i (by omega), List.getD_eq_getElem?_getD, List.getD_eq_getElem?_getD, List.getElem?_take, if_pos (by omega)]
theorem app_nil {w : World} {n0 : Nat} {v : Value} {l : List Int} (h : w.ownsRow n0 3 1 v l.length (nums l)) (a : Option Addr) (c : Nat) (ty : TypeId) : (Builtin.append_ #[22, 22] ty #[v, .slice a 0 c]).run Tryz.prog w = .ok v w := by
  obtain ⟨i0, hi, hz0, hz1, hz2⟩ := info_parts info_ev_int
  rcases a with _ | ad
  · rcases h.2 with ⟨rfl, h0⟩ | ⟨g, cp, cur, rfl, _, hg, hnc, _, _, _⟩
    · simp [Builtin.append_, run_underlying Tryz.underlying22, sizeOf, typeInfo, hi, Builtin.lenOf, Builtin.firstCells]
    · simp [Builtin.append_, run_underlying Tryz.underlying22, sizeOf, typeInfo, hi, Builtin.lenOf, Builtin.firstCells, hnc, storeCells]
  · rcases h.2 with ⟨rfl, h0⟩ | ⟨g, cp, cur, rfl, _, hg, hnc, _, _, _⟩
    · simp [Builtin.append_, run_underlying Tryz.underlying22, sizeOf, typeInfo, hi, Builtin.lenOf, Builtin.firstCells, loadCells, loadCellsFrom]
    · simp [Builtin.append_, run_underlying Tryz.underlying22, sizeOf, typeInfo, hi, Builtin.lenOf, Builtin.firstCells, hnc, storeCells, loadCells, loadCellsFrom]
theorem put_one (w : World) (n : Int) : Ints (w.alloc (.cells #[.int .i64 n] 3)) (.slice (some ⟨w.heap.size, 0, none⟩) 1 1) [n] :=
  ⟨_, _, rfl, Or.inr ⟨w.heap.size, 0, rfl, fun i hi => by
    obtain rfl : i = 0 := by simp at hi; omega
    simp⟩⟩
theorem ints_drop {w : World} {b off : Nat} {l : List Int} {cap k : Nat} (h : Ints w (.slice (some ⟨b, off, none⟩) l.length cap) l) (hk : k ≤ l.length) (hc : l.length ≤ cap) : Ints w (.slice (if cap = k then some ⟨b, off, none⟩ else some ⟨b, off + k, none⟩) (l.length - k) (cap - k)) (l.drop k) := by
  obtain ⟨a', c', e, hcell⟩ := h
  obtain ⟨rfl, rfl⟩ : some (⟨b, off, none⟩ : Addr) = a' ∧ cap = c' := by simpa using e
  refine ⟨_, _, by rw [List.length_drop], ?_⟩
  by_cases q : cap = k
  · exact Or.inl (List.drop_eq_nil_of_le (by omega))
  · rw [if_neg q]
    rcases hcell with rfl | ⟨b', off', ea, hcell⟩
    · exact Or.inl (by simp)
    · obtain ⟨rfl, rfl⟩ : b = b' ∧ off = off' := by simpa using ea
      refine Or.inr ⟨b, off + k, rfl, fun i hi => ?_⟩
      rw [List.length_drop] at hi
      have := hcell (k + i) (by omega)
      rw [← Nat.add_assoc] at this
      rw [this, List.getD_eq_getElem?_getD, List.getD_eq_getElem?_getD, List.getElem?_drop]
set_option maxRecDepth 100000 in
set_option maxHeartbeats 4000000 in
theorem refPut_any (v : Value) (l : List Int) (n : Int) (w : World) (hv : Ints w v l) (hf : Frl v l) (hl : l.length ≤ 900000) :
    Calls Tryz.prog 32 #[v, .int .i64 n] w (PutA w l n) := by
  rcases hf with ⟨rfl, rfl⟩ | ⟨b, off, cap, rfl, lc⟩
  · obtain ⟨v3, w3, ap2, o2, b2⟩ := app_any (w := w.alloc (.cells #[.int .i64 n] 3)) (n0 := w.heap.size) (l := []) (mo := [n]) (World.ownsRow_nil _ w.heap.size 3 1) (put_one w n) (by rw [World.size_alloc]; omega) (by simp)
    have AP1 := Lib.hid (app_nil (w := w) (n0 := w.heap.size) (l := []) (World.ownsRow_nil _ w.heap.size 3 1) none 0)
    have AP2 := Lib.hid ap2
    have AP3 := Lib.hid (app_nil o2 none 0)
    have ZZ := Lib.hid (show PutA w [] n (.returned v3) w3 from ⟨v3, _, rfl, ow_ints o2, own_frl o2, put_new (l := []) (k := 0) (Nat.le_refl _) (fun i _ h => by simp at h) (fun q => by omega), (((Below.refl _ _).alloc (Nat.le_refl _) _).trans b2)⟩)
    clear ap2 o2 b2 hv
    go_enter Tryz.func32, Tryz.ntmps32
    go_wp2_with fail
    go_loop [5] (fun i => i = .int .i64 0) (fun _ => 0)
    case atStart => rfl
    case round =>
      subst hrel
      go_upto_region 8 with (at_builtin; refine wpList_app rfl _ _ 22 rfl _ _ _ _ rfl rfl AP1.out ?_)
      go_upto_region 9 with (at_builtin; refine wpList_app rfl _ _ 22 rfl _ _ _ _ rfl rfl AP2.out ?_)
      go_wp2_with (at_builtin; refine wpList_app rfl _ _ 22 rfl _ _ _ _ rfl rfl AP3.out ?_)
      go_ret
      exact ZZ.out
  have HV := Lib.hid hv
  have HCP : Hid (Frl (.slice (some ⟨b, off, none⟩) l.length cap) l) := Lib.hid (Or.inr ⟨b, off, cap, rfl, lc⟩)
  have HC : Hid (∀ i, i < l.length → w.cell? ⟨b, off + i, none⟩ = some (.int .i64 (l.getD i 0))) := Lib.hid (fun i hi => by
    obtain ⟨a', c', e, hc⟩ := hv
    obtain ⟨rfl, rfl⟩ : some (⟨b, off, none⟩ : Addr) = a' ∧ cap = c' := by simpa using e
    rcases hc with hc | ⟨b', off', ea, hc⟩
    · rw [hc] at hi; simp at hi
    · obtain ⟨rfl, rfl⟩ : b = b' ∧ off = off' := by simpa using ea
      exact hc i hi)
  clear hv
  go_enter Tryz.func32, Tryz.ntmps32
  go_wp2_with fail
  go_loop [5] (fun i => ∃ k : Nat, k ≤ l.length ∧ i = .int .i64 k ∧ ∀ i, k ≤ i → i < l.length → n < l.getD i 0) (fun i => (intOf i).toNat)
  case atStart => exact ⟨l.length, Nat.le_refl _, rfl, fun i h1 h2 => by omega⟩
  case round =>
    obtain ⟨k, hk, rfl, hF⟩ := hrel
    have HF := Lib.hid hF
    clear hF
    rcases Nat.eq_zero_or_pos k with h0 | h0
    · subst h0
      have PR : Hid (PutR l n (l.take 0 ++ (n :: l.drop 0))) := Lib.hid (put_new (Nat.zero_le _) (fun i _ h => HF.out i (Nat.zero_le _) h) (fun q => by omega))
      obtain ⟨v2, w2, ap1, o1, b1⟩ := app_any (l := []) (mo := l.take 0) (World.ownsRow_nil w w.heap.size 3 1) (ints_take HV.out (Nat.zero_le _)) (Nat.le_refl _) (by simp)
      rw [List.nil_append] at o1
      have z2 := b1.size
      obtain ⟨v3, w3, ap2, o2, b2⟩ := app_any (l := l.take 0) (mo := [n]) (o1.alloc (.cells #[.int .i64 n] 3)) (put_one w2 n) (Nat.le_trans z2 (by rw [World.size_alloc]; omega)) (by simp)
      have B2 : Below w.heap.size w w3 := (b1.alloc z2 _).trans b2
      have ID : Ints w3 (.slice (some ⟨b, off, none⟩) l.length cap) (l.drop 0) := by rw [List.drop_zero]; exact HV.out.on B2
      obtain ⟨v4, w4, ap3, o3, b3⟩ := app_any (l := l.take 0 ++ [n]) (mo := l.drop 0) o2 ID B2.size (by simp; omega)
      rw [List.append_assoc, List.singleton_append] at o3
      have AP1 := Lib.hid ap1
      have AP2 := Lib.hid ap2
      have AP3 := Lib.hid ap3
      have ZZ := Lib.hid (show PutA w l n (.returned v4) w4 from ⟨v4, _, rfl, ow_ints o3, own_frl o3, PR.out, B2.trans b3⟩)
      clear ap1 ap2 ap3 o1 o2 o3 b1 b2 b3 B2 ID PR z2 HF
      go_wp2_with (at_builtin; first | refine wpList_app rfl _ _ 22 rfl _ _ _ _ rfl rfl AP1.out ?_ | refine wpList_app rfl _ _ 22 rfl _ _ _ _ rfl rfl AP2.out ?_ | refine wpList_app rfl _ _ 22 rfl _ _ _ _ rfl rfl AP3.out ?_)
      all_goals
        go_ret
        exact ZZ.out
    · obtain ⟨j, rfl⟩ : ∃ j, k = j + 1 := ⟨k - 1, by omega⟩
      have ck := HC.out j (by omega)
      have HX : Hid (∀ x, x = l.getD j 0 → n < x → ∀ i, j ≤ i → i < l.length → n < l.getD i 0) := Lib.hid (fun x e q i h1 h2 => by
        rcases Nat.lt_or_ge j i with z | z
        · exact HF.out i (by omega) h2
        · rw [show i = j by omega, ← e]; exact q)
      obtain ⟨x, hx⟩ : ∃ x, x = l.getD j 0 := ⟨_, rfl⟩
      rw [← hx] at ck
      have HXX := Lib.hid hx
      have i1 : (0 : Int) ≤ ((j + 1 : Nat) : Int) - 1 := by omega
      have i2 : ((j + 1 : Nat) : Int) - 1 < (l.length : Int) := by omega
      have i3 : (((j + 1 : Nat) : Int) - 1).toNat = j := by omega
      clear hx
      by_cases hq : n < x
      · have N1 := Lib.hid (HX.out x HXX.out hq)
        go_wp2
        go_round
        case rel => exact ⟨j, by omega, by go_num, N1.out⟩
        case measure => simp [intOf]
      · rcases he : (x == n) with _ | _
        · have PR : Hid (PutR l n (l.take (j + 1) ++ (n :: l.drop (j + 1)))) := Lib.hid (put_new (by omega) HF.out (fun _ => by
            have e := beq_eq_false_iff_ne.1 he
            rw [Nat.add_sub_cancel, ← HXX.out]; omega))
          obtain ⟨v2, w2, ap1, o1, b1⟩ := app_any (l := []) (mo := l.take (j + 1)) (World.ownsRow_nil w w.heap.size 3 1) (ints_take HV.out (show j + 1 ≤ l.length by omega)) (Nat.le_refl _) (by simp; omega)
          rw [List.nil_append] at o1
          have z2 := b1.size
          obtain ⟨v3, w3, ap2, o2, b2⟩ := app_any (l := l.take (j + 1)) (mo := [n]) (o1.alloc (.cells #[.int .i64 n] 3)) (put_one w2 n) (Nat.le_trans z2 (by rw [World.size_alloc]; omega)) (by simp; omega)
          have B2 : Below w.heap.size w w3 := (b1.alloc z2 _).trans b2
          obtain ⟨SL, hS⟩ : ∃ SL : Option Addr, SL = if cap = j + 1 then some ⟨b, off, none⟩ else some ⟨b, off + (j + 1), none⟩ := ⟨_, rfl⟩
          have ID : Ints w3 (.slice SL (l.length - (j + 1)) (cap - (j + 1))) (l.drop (j + 1)) := by rw [hS]; exact ints_drop (HV.out.on B2) hk lc
          obtain ⟨v4, w4, ap3, o3, b3⟩ := app_any (l := l.take (j + 1) ++ [n]) (mo := l.drop (j + 1)) o2 ID B2.size (by simp; omega)
          rw [List.append_assoc, List.singleton_append] at o3
          have AP1 := Lib.hid ap1
          have AP2 := Lib.hid ap2
          have AP3 := Lib.hid ap3
          have ZZ := Lib.hid (show PutA w l n (.returned v4) w4 from ⟨v4, _, rfl, ow_ints o3, own_frl o3, PR.out, B2.trans b3⟩)
          have c0 : ¬ l.length < j + 1 := by omega
          have c9 : j + 1 ≤ cap := by omega
          clear ap1 ap2 ap3 o1 o2 o3 b1 b2 b3 B2 ID PR z2
          rcases (by by_cases q : cap = j + 1; exact Or.inl q; exact Or.inr q : cap = j + 1 ∨ ¬ cap = j + 1) with q | q
          · rw [if_pos q] at hS
            subst hS
            go_wp2_with (at_builtin; first | refine wpList_app rfl _ _ 22 rfl _ _ _ _ rfl rfl AP1.out ?_ | refine wpList_app rfl _ _ 22 rfl _ _ _ _ rfl rfl AP2.out ?_ | refine wpList_app rfl _ _ 22 rfl _ _ _ _ rfl rfl AP3.out ?_)
            go_ret
            exact ZZ.out
          · rw [if_neg q] at hS
            subst hS
            go_wp2_with (at_builtin; first | refine wpList_app rfl _ _ 22 rfl _ _ _ _ rfl rfl AP1.out ?_ | refine wpList_app rfl _ _ 22 rfl _ _ _ _ rfl rfl AP2.out ?_ | refine wpList_app rfl _ _ 22 rfl _ _ _ _ rfl rfl AP3.out ?_)
            go_ret
            exact ZZ.out
        · have N1 : Hid (PutR l n l) := Lib.hid (put_same (by
            have e : x = n := by simpa using he
            rw [← e, HXX.out, List.getD_eq_getElem?_getD, List.getElem?_eq_getElem (by omega)]
            exact List.getElem_mem (by omega)))
          go_wp2
          go_ret
          exact ⟨.slice (some ⟨b, off, none⟩) l.length cap, l, rfl, HV.out, HCP.out, N1.out, Below.refl _ _⟩
end Go.Proofs.YtnnpnalfkcngmadGreatDoor
