/-
  What is proved here: what slices.Grow answers at no stretches, and slices.Concat at two lists of them (contracts over the translation).
  What is proved here: what busy.Norm, Total and Join answer, whatever they are handed (contracts over the translation).
-/
import Derived.Test.YtoncfgfjdlgfcaaGreatDoorBZM
import Derived.Lib.AppendZerosOnto
namespace Go.Proofs.YtoncfgfjdlgfcaaGreatDoor.Bz
open Go.RowKit

theorem wpl_app2 (w : World) {ops : Array Oper} {rest : List Oper} {o : Oper} {a : Act} {Q : Exit → Act → World → Prop} (hgd : o.guard = none) (d s : Operand) (t t' : TypeId)
    (ho : o.op = .call { callee := .builtin .append, args := #[d, s], argTypes := #[t, t'] }) (v u : Value) (hd : a.eval d = v) (hs : a.eval s = u) {v' : Value} {w' : World}
    (hr : ∀ ty, (Builtin.append_ #[t, t'] ty #[v, u]).run Tryz.prog w = .ok v' w') (h : wpList Tryz.prog ops Q rest (a.put o.dst v') w') : wpList Tryz.prog ops Q (o :: rest) a w :=
  wpList_plain hgd fun _ hK => by
    unfold Oper.wp execOp
    simp only [ho, resolve, invoke, builtin, Sem.run_bind, Sem.run_pure, Result.andThen_ok, List.map_toArray, List.map_cons, List.map_nil, hd, hs, hr]
    exact hK _ _ h
theorem zc_size (n : Nat) : (Builtin.zeroCells (Value.agg #[.int .i64 0, .int .i64 0]).cells n).size = n * 2 := by
  show (Builtin.zeroCells #[.int .i64 0, .int .i64 0] n).size = _
  simp [Builtin.zeroCells]
set_option maxRecDepth 100000 in
theorem grw_any (n : Nat) (w : World) (h : n ≤ 1000) :
    Calls Tryz.prog 94 #[.slice none 0 0, .int .i64 n] w fun e w' => ∃ u, e = .returned u ∧ Ob w' w.heap.size u [] ∧ Below w.heap.size w w' := by
  rcases Nat.eq_zero_or_pos n with rfl | h0
  · go_enter Tryz.func94, Tryz.ntmps94
    go_wp2
    go_ret
    exact ⟨_, rfl, World.ownsRow_nil _ _ _ _, Below.refl _ _⟩
  · obtain ⟨i0, hi, hz0, hz1, hz2⟩ := info_parts info_bz
    obtain ⟨G, hG⟩ : ∃ G, G = grownCap w n 0 99 := ⟨_, rfl⟩
    have hG1 : n ≤ G := by rw [hG]; exact grownCap_ge w _ _ _
    have hG2 : G ≤ maxLen := by rw [hG]; exact grownCap_le_maxLen w n 0 99 (by unfold maxLen; omega)
    obtain ⟨C, hC⟩ : ∃ C : Array Value, C = #[] ++ Builtin.zeroCells (Value.agg #[.int .i64 0, .int .i64 0]).cells n ++ Builtin.zeroCells (Value.agg #[.int .i64 0, .int .i64 0]).cells (G - n) := ⟨_, rfl⟩
    have cs : C.size = G * 2 := by rw [hC, Array.size_append, Array.size_append, zc_size, zc_size]; simp; omega
    have AW : Hid (∀ ty, (Builtin.append_ #[46, 3] ty #[.slice none 0 0, .int .i64 n]).run Tryz.prog w = .ok (.slice (some ⟨w.heap.size, 0, none⟩) n G) (w.drew.alloc (.cells C 99))) := Lib.hid (fun ty => by
      have hc : Builtin.nextslicecap n 0 * 16 ≤ 281474976710656 := by
        have : Builtin.nextslicecap n 0 = n := by
          unfold Builtin.nextslicecap
          simp
          omega
        rw [this]
        omega
      have q := Lib.run_append_grow_zeros (P := Tryz.prog) w 46 3 ty 99 i0 _ .i64 .i64 Tryz.underlying46 Tryz.underlying3 hi hz0 none 0 0 [] (by simp [Builtin.firstCells]) n h0 (by omega) (by omega) (by omega) (by rw [hz2]; omega) (by rw [hz2, Nat.zero_add]; exact hc)
      rw [Nat.zero_add, ← hG] at q
      rw [q, hC])
    have O1 : Hid (Ob (w.drew.alloc (.cells C 99)) w.heap.size (.slice (some ⟨w.heap.size, 0, none⟩) 0 G) []) := Lib.hid (World.ownsRow_made w.drew C G (Nat.le_refl _) hG2 cs)
    have B1 : Hid (Below w.heap.size w (w.drew.alloc (.cells C 99))) := Lib.hid ((below_dr w 1).trans (below_one w.drew _))
    have g0 : 0 ≤ G := Nat.zero_le _
    clear hC cs hG hG2 hi hz0 hz1 hz2
    go_enter Tryz.func94, Tryz.ntmps94
    go_wp2_with (at_builtin; refine wpl_app2 _ rfl _ _ 46 3 rfl _ _ rfl rfl AW.out ?_)
    go_ret
    exact ⟨_, rfl, O1.out, B1.out⟩
/-- Two lists in a block. -/
def Two2 (w : World) (b : Nat) (x y : Value) : Prop := w.cell? ⟨b, 0, none⟩ = some x ∧ w.cell? ⟨b, 1, none⟩ = some y
set_option maxRecDepth 100000 in
set_option maxHeartbeats 1000000 in
theorem cat_any (l m : List Bz) (v u : Value) (b : Nat) (w : World) (ht : Two2 w b v u) (hv : Rb w v l) (hu : Rb w u m) (hl : l.length ≤ 400) (hm : m.length ≤ 400) :
    Calls Tryz.prog 45 #[.slice (some ⟨b, 0, none⟩) 2 2] w fun e w' => ∃ x, e = .returned x ∧ Ob w' w.heap.size x (l ++ m) ∧ Below w.heap.size w w' := by
  have HV := Lib.hid hv
  have HU := Lib.hid hu
  have HT := Lib.hid ht
  obtain ⟨t0, t1⟩ := ht
  have tl := cell_in t0
  obtain ⟨av, cv, rfl, _⟩ := hv
  obtain ⟨au, cu, rfl, _⟩ := hu
  go_enter Tryz.func45, Tryz.ntmps45
  go_wp2_with fail
  go_loop [11, 3, 5] (fun i s _ => (i = .int .i64 0 ∧ s = .int .i64 0) ∨ (i = .int .i64 1 ∧ s = .int .i64 l.length) ∨ (i = .int .i64 2 ∧ s = .int .i64 ((l.length + m.length : Nat) : Int))) (fun i _ _ => 2 - (intOf i).toNat)
  case atStart => exact Or.inl ⟨rfl, rfl⟩
  case round =>
    rcases hrel with ⟨rfl, rfl⟩ | ⟨rfl, rfl⟩ | ⟨rfl, rfl⟩
    · go_wp2
      go_round
      case rel => exact Or.inr (Or.inl ⟨rfl, by go_num⟩)
      case measure => simp [intOf]
    · go_wp2
      go_round
      case rel => exact Or.inr (Or.inr ⟨rfl, by go_num⟩)
      case measure => simp [intOf]
    · obtain ⟨S, hS⟩ : ∃ S, S = l.length + m.length := ⟨_, rfl⟩
      rw [← hS]
      have hS2 : S ≤ 1000 := by omega
      clear hS t0 t1 tl
      go_wp2_with fail
      refine (grw_any S w hS2).mono ?_
      rintro e w1 ⟨x, rfl, ho, hb⟩
      have O1 := Lib.hid ho
      have B1 := Lib.hid hb
      clear ho hb
      go_wp2_with fail
      go_loopw [27, 6, 8] (fun i s _ wr => ∃ x, s = x ∧ Below w.heap.size w wr ∧ ((i = .int .i64 0 ∧ Hid (Ob wr w.heap.size x [])) ∨ (i = .int .i64 1 ∧ Hid (Ob wr w.heap.size x l)) ∨ (i = .int .i64 2 ∧ Hid (Ob wr w.heap.size x (l ++ m))))) (fun i _ _ _ => 2 - (intOf i).toNat)
      case atStart => exact ⟨x, rfl, B1.out, Or.inl ⟨rfl, O1⟩⟩
      case round =>
        obtain ⟨x2, hx, hB, hc⟩ := hrel
        replace hx := hx.symm
        subst hx
        have HB := Lib.hid hB
        rcases hc with ⟨rfl, HO⟩ | ⟨rfl, HO⟩ | ⟨rfl, HO⟩
        · obtain ⟨v6, w6, ap, o6, b6⟩ := appB_any HO.out (HV.out.on hB) hB.size (by simp; omega)
          have AP := Lib.hid ap
          have O6 : Hid (Ob w6 w.heap.size v6 l) := Lib.hid o6
          have B6 := Lib.hid (HB.out.trans b6)
          obtain ⟨t0, t1⟩ := HT.out
          have tl := cell_in t0
          have s0 := (hB.cell (p := ⟨b, 0, none⟩) tl).trans t0
          have sl := cell_in s0
          clear ap o6 b6 hB t0 t1 tl
          go_wp2_with (at_builtin; refine wpl_app rfl _ _ 46 rfl _ _ _ _ rfl rfl AP.out ?_)
          go_roundw
          case rel => exact ⟨v6, rfl, B6.out, Or.inr (Or.inl ⟨rfl, O6⟩)⟩
          case measure => simp [intOf]
        · obtain ⟨v6, w6, ap, o6, b6⟩ := appB_any HO.out (HU.out.on hB) hB.size (by omega)
          have AP := Lib.hid ap
          have O6 : Hid (Ob w6 w.heap.size v6 (l ++ m)) := Lib.hid o6
          have B6 := Lib.hid (HB.out.trans b6)
          obtain ⟨t0, t1⟩ := HT.out
          have tl := cell_in t1
          have s1 := (hB.cell (p := ⟨b, 1, none⟩) tl).trans t1
          have sl := cell_in s1
          clear ap o6 b6 hB t0 t1 tl
          go_wp2_with (at_builtin; refine wpl_app rfl _ _ 46 rfl _ _ _ _ rfl rfl AP.out ?_)
          go_roundw
          case rel => exact ⟨v6, rfl, B6.out, Or.inr (Or.inr ⟨rfl, O6⟩)⟩
          case measure => simp [intOf]
        · go_wp2
          go_ret
          exact ⟨x2, rfl, HO.out, HB.out⟩
end Go.Proofs.YtoncfgfjdlgfcaaGreatDoor.Bz
namespace Go.Proofs.YtoncfgfjdlgfcaaGreatDoor.Bz
open Go.RowKit

/-- What Norm tells. -/
def nmL (l : List Bz) : List Bz := if bzF l = 0 then nrm l else []
theorem nmL_yes {l : List Bz} (h : bzF l = 0) : nmL l = nrm l := if_pos h
theorem nmL_no {l : List Bz} (h : ¬ bzF l = 0) : nmL l = [] := if_neg h
theorem nmL_cn (l : List Bz) : Cn (nmL l) := by
  unfold nmL
  split
  · rename_i h
    exact nrm_cn (gd_rt (bzF_zero.1 h).2)
  · exact cn_nil
theorem nmL_in (l : List Bz) : Wt 1 157785119 (nmL l) := by
  unfold nmL
  split
  · rename_i h
    exact nrm_in (gd_rt (bzF_zero.1 h).2) (gd_wt (bzF_zero.1 h).2)
  · intro x hx
    simp at hx
theorem nmL_len (l : List Bz) : (nmL l).length ≤ 200 := by
  unfold nmL
  split
  · rename_i h
    exact Nat.le_trans (nrm_len (gd_rt (bzF_zero.1 h).2)) (bzF_zero.1 h).1
  · simp
/-- A list and an error. -/
def NmA (w : World) (l : List Bz) (f : Int) (e : Ending) (w' : World) : Prop := ∃ u, e = .returned (.tuple #[u, fault f]) ∧ Ob w' w.heap.size u l ∧ Below w.heap.size w w'
set_option maxRecDepth 100000 in
theorem nrm_any (hS : SrtH) (l : List Bz) (v : Value) (w : World) (hv : Rb w v l) (hl : l.length ≤ 9223372036854775807) :
    Calls Tryz.prog 44 #[v] w (NmA w (nmL l) (bzF l)) := by
  have HV := Lib.hid hv
  have HS := Lib.hid hS
  have K := Lib.hid (chk_any l v w hv hl)
  clear hv hS
  by_cases h : bzF l = 0
  · have NL := Lib.hid (nmL_yes h)
    have GF := Lib.hid (bzF_zero.1 h)
    have HF := Lib.hid h
    rw [fault_zero h] at K
    go_enter Tryz.func44, Tryz.ntmps44
    go_wp2_with fail
    refine K.out.mono ?_
    rintro e w1 ⟨rfl, hb⟩
    have B1 := Lib.hid hb
    have K2 := Lib.hid (mrg_any HS.out l v w1 (HV.out.on hb) (Nat.le_trans GF.out.1 (by decide)) GF.out.2)
    clear hb K h
    go_wp2_with fail
    refine K2.out.mono ?_
    rintro e w2 ⟨u, rfl, ho, hb⟩
    have O2 := Lib.hid ho
    have B2 := Lib.hid (B1.out.trans (hb.mono B1.out.size))
    clear ho hb K2
    go_wp2
    go_ret2
    exact ⟨u, by rw [fault_zero HF.out]; rfl, by rw [NL.out]; exact own_mono O2.out B1.out.size, B2.out⟩
  · have NL := Lib.hid (nmL_no h)
    have HF := Lib.hid h
    rw [fault_not h] at K
    generalize nmL l = L at NL ⊢
    generalize bzF l = F at K HF ⊢
    clear h
    go_enter Tryz.func44, Tryz.ntmps44
    go_wp2_with fail
    refine K.out.mono ?_
    rintro e w1 ⟨rfl, hb⟩
    have B1 := Lib.hid hb
    clear hb K
    go_wp2
    go_ret2
    exact ⟨_, by rw [fault_not HF.out]; rfl, by rw [NL.out]; exact World.ownsRow_nil _ _ _ _, B1.out⟩
theorem tot_take (m : List Bz) (k : Nat) (h : k < m.length) : tot (m.take (k + 1)) = tot (m.take k) + ((m.getD k (0, 0)).2 - (m.getD k (0, 0)).1) := by
  have app : ∀ (a : List Bz) (x : Bz), tot (a ++ [x]) = tot a + (x.2 - x.1) := fun a x => by
    induction a with
    | nil => simp [tot]
    | cons y r ih => show y.2 - y.1 + tot (r ++ [x]) = y.2 - y.1 + tot r + _; rw [ih]; omega
  rw [List.take_succ_eq_append_getElem h, app, List.getD_eq_getElem?_getD, List.getElem?_eq_getElem h]
  rfl
theorem cn_take {m : List Bz} (h : Cn m) (k : Nat) : Cn (m.take k) := ⟨List.Pairwise.sublist (List.take_sublist k m) h.1, fun x hx => h.2 x (List.mem_of_mem_take hx)⟩
theorem wt_take {m : List Bz} {lo hi : Int} (h : Wt lo hi m) (k : Nat) : Wt lo hi (m.take k) := fun x hx => h x (List.mem_of_mem_take hx)
/-- A number and an error. -/
def TtA (w : World) (n f : Int) (e : Ending) (w' : World) : Prop := e = .returned (.tuple #[.int .i64 n, fault f]) ∧ Below w.heap.size w w'
/-- What Join tells: the fault, the list. -/
def joF (l m : List Bz) : Int := if bzF l = 0 then (if bzF m = 0 then bzF (l ++ m) else bzF m) else bzF l
def joL (l m : List Bz) : List Bz := if joF l m = 0 then nrm (l ++ m) else []
end Go.Proofs.YtoncfgfjdlgfcaaGreatDoor.Bz
