/-
  What is proved here: what the document's Add answers of a rising list of rings and another ring, whatever their names (a contract over the translation).
-/
import Derived.Test.YtpnbnnndpbjgmaaDoorQuRefO
import Derived.Test.YtpnbnnndpbjgmaaDoorOwK2
import Derived.Lib.QuietBelow
import Derived.Deep.Cut
import Derived.Deep.CutRange
import Derived.Deep.CutBlock
namespace Go.Proofs.YtpnbnnndpbjgmaaDoor.Qu
open Go.RowKit

theorem wnm5 {n : Nat} {w w' : World} (_ : Below n w w') : ∃ x, x = w' := ⟨_, rfl⟩
def ltQ (x y : Rq) : Prop := oc x y < 0
theorem oc_pos (x y : Rq) : 0 < oc x y ↔ ltQ y x := (oc_cm.anti y x).symm
theorem ltQ_tot {x y : Rq} (h : ¬ ltQ y x) (n : x ≠ y) : ltQ x y := by
  have h1 : ¬ oc x y = 0 := fun q => n ((oc_cm.eq x y).1 q)
  have h2 : ¬ 0 < oc x y := fun q => h ((oc_pos x y).1 q)
  show oc x y < 0
  omega
theorem ltQ_trans {x y z : Rq} (p : ltQ x y) (q : ltQ y z) : ltQ x z := oc_cm.tr _ _ _ p q
theorem info_rq : (Tryd.prog.info? 34).map (fun i => (i.zero, i.size, i.bytes)) = some (some (.agg #[.int .i64 0, .string ⟨#[]⟩, .int .i64 0, .int .i64 0, .int .i64 0]), 5, 48) := by kernel_rfl
theorem app5_any {w : World} {n0 : Nat} {v vo : Value} {l mo : List Rq} (h : w.ownsRow n0 34 5 v l.length (l.flatMap encQ)) (hm : RowK encQ w vo mo) (hn : n0 ≤ w.heap.size) (hl : l.length + mo.length ≤ 1000000000) :
    ∃ v' w', (∀ ty, (Builtin.append_ #[23, 23] ty #[v, vo]).run Tryd.prog w = .ok v' w') ∧ w'.ownsRow n0 34 5 v' (l ++ mo).length ((l ++ mo).flatMap encQ) ∧ Below n0 w w' :=
  appK_any (enc := encQ) (k := 5) (fun _ => rfl) (by decide) encQ_one Tryd.underlying23 info_rq rfl (by decide) h hm hn hl
/-- An append whose end is known. -/
theorem wpList_app {P : Program} {w : World} {ops : Array Oper} {rest : List Oper} {o : Oper} {a : Act} {Q : Exit → Act → World → Prop} (hgd : o.guard = none) (s x : Operand) (t : TypeId)
    (ho : o.op = .call { callee := .builtin .append, args := #[s, x], argTypes := #[t, t] }) (v vo v' : Value) (w' : World) (hs : a.eval s = v) (hx : a.eval x = vo)
    (hr : ∀ ty, (Builtin.append_ #[t, t] ty #[v, vo]).run P w = .ok v' w') (h : wpList P ops Q rest (a.put o.dst v') w') : wpList P ops Q (o :: rest) a w := by
  refine wpList_plain hgd fun K hK => ?_
  unfold Oper.wp execOp
  simp only [ho, resolve, invoke, builtin, Sem.run_bind, Sem.run_pure, Result.andThen_ok, List.map_toArray, List.map_cons, List.map_nil, hs, hx, hr]
  exact hK _ _ h
theorem rowK_at {w : World} {v : Value} {l : List Rq} (h : RowK encQ w v l) : ∃ a cap, v = .slice a l.length cap ∧ (l = [] ∨ ∃ b off, a = some ⟨b, off, none⟩ ∧ ∀ i, i < l.length → At5 w b (off + i * 5) (l.getD i zq)) := by
  obtain ⟨a, cap, e, hc⟩ := h
  refine ⟨a, cap, e, ?_⟩
  rcases hc with hc | ⟨b, off, ea, hc⟩
  · exact Or.inl hc
  · refine Or.inr ⟨b, off, ea, fun i hi => ?_⟩
    have at_ : ∀ c v, c < 5 → (encQ (l.getD i zq))[c]? = some v → w.cell? ⟨b, off + i * 5 + c, none⟩ = some v := fun c v h5 hv => by
      have q := flatQ_at l i c hi h5
      have q2 : (l.flatMap encQ)[i * 5 + c]? = some v := q.trans hv
      have := hc (i * 5 + c) v q2
      rwa [← Nat.add_assoc] at this
    exact ⟨at_ 0 _ (by decide) rfl, at_ 1 _ (by decide) rfl, at_ 2 _ (by decide) rfl, at_ 3 _ (by decide) rfl, at_ 4 _ (by decide) rfl⟩
/-- A ring is put in. -/
theorem insR_rise {O : List Rq} {y : Rq} {k : Nat} (hO : O.Pairwise ltQ) (hk : k ≤ O.length) (h1 : ∀ j, k ≤ j → j < O.length → ltQ y (O.getD j zq)) (h2 : 0 < k → ltQ (O.getD (k - 1) zq) y) : (O.take k ++ y :: O.drop k).Pairwise ltQ := by
  have lo : ∀ x ∈ O.take k, ltQ x y := fun x hx => by
    obtain ⟨i, hi, rfl⟩ := List.getElem_of_mem hx
    rw [List.length_take] at hi
    rw [List.getElem_take]
    have hk1 := h2 (by omega)
    rw [List.getD_eq_getElem?_getD, List.getElem?_eq_getElem (by omega)] at hk1
    rcases (by omega : i = k - 1 ∨ i < k - 1) with z | z
    · subst z; exact hk1
    · exact ltQ_trans (List.pairwise_iff_getElem.1 hO i (k - 1) (by omega) (by omega) z) hk1
  have up : ∀ x ∈ O.drop k, ltQ y x := fun x hx => by
    obtain ⟨i, hi, rfl⟩ := List.getElem_of_mem hx
    rw [List.length_drop] at hi
    rw [List.getElem_drop]
    have := h1 (k + i) (by omega) (by omega)
    rwa [List.getD_eq_getElem?_getD, List.getElem?_eq_getElem (by omega)] at this
  rw [List.pairwise_append, List.pairwise_cons]
  refine ⟨hO.sublist (List.take_sublist k O), ⟨up, hO.sublist (List.drop_sublist k O)⟩, fun x hx z hz => ?_⟩
  rcases List.mem_cons.1 hz with rfl | hz
  · exact lo x hx
  · exact ltQ_trans (lo x hx) (up z hz)
theorem insR_mem {O : List Rq} {y z : Rq} {k : Nat} : z ∈ O.take k ++ y :: O.drop k ↔ z ∈ O ∨ z = y := by
  rw [List.mem_append, List.mem_cons]
  constructor
  · rintro (q | q | q)
    · exact Or.inl (List.mem_of_mem_take q)
    · exact Or.inr q
    · exact Or.inl (List.mem_of_mem_drop q)
  · rintro (q | q)
    · rw [← List.take_append_drop k O, List.mem_append] at q
      rcases q with q | q
      · exact Or.inl q
      · exact Or.inr (Or.inr q)
    · exact Or.inr (Or.inl q)
/-- What comes of it: a list in order that holds both. -/
def Put (O : List Rq) (r : Rq) (P : List Rq) : Prop := P.Pairwise ltQ ∧ (∀ z, z ∈ P ↔ z ∈ O ∨ z = r) ∧ P.length ≤ O.length + 1
/-- A list of rings that can be cut. -/
def Rw (w : World) (v : Value) (O : List Rq) : Prop := RowK encQ w v O ∧ ((v = .slice none 0 0 ∧ O = []) ∨ ∃ b off cap, v = .slice (some ⟨b, off, none⟩) O.length cap ∧ O.length ≤ cap)
theorem Rw.on {w w' : World} {v : Value} {O : List Rq} (h : Rw w v O) (q : Below w.heap.size w w') : Rw w' v O := ⟨h.1.on q, h.2⟩
theorem Rw.nil (w : World) : Rw w (.slice none 0 0) [] := ⟨RowK.nil _ _, Or.inl ⟨rfl, rfl⟩⟩
theorem own_rw {w : World} {n0 n : Nat} {v : Value} {O : List Rq} (h : w.ownsRow n0 34 5 v n (O.flatMap encQ)) : Rw w v O := by
  have hk := own_rowK (enc := encQ) (k := 5) (fun _ => rfl) (by decide) h
  obtain ⟨a, cap, e, _⟩ := id hk
  refine ⟨hk, ?_⟩
  rcases h.2 with ⟨hv, h0⟩ | ⟨g, cap', cur, hv, _, _, hc, _⟩
  · left
    refine ⟨hv, List.eq_nil_of_length_eq_zero ?_⟩
    rw [hv] at e; simp at e; omega
  · right
    have : O.length = n := by rw [hv] at e; simp at e; omega
    exact ⟨g, 0, cap', by rw [hv, this], by omega⟩
def AddA (O : List Rq) (r : Rq) (v : Value) (w : World) (x : Ending) (w' : World) : Prop := ∃ u P, x = .returned u ∧ Rw w' u P ∧ Put O r P ∧ Below w.heap.size w w' ∧ ∀ k, u.ownBlock = some k → v.ownBlock = some k ∨ w.heap.size ≤ k
theorem rowTake {α : Type} {enc : α → List Value} {w : World} {a : Option Addr} {cap : Nat} {l : List α} (h : RowK enc w (.slice a l.length cap) l) (k : Nat) (hk : k ≤ l.length) : RowK enc w (.slice a k cap) (l.take k) := by
  have hl : (l.take k).length = k := by rw [List.length_take]; omega
  obtain ⟨a', cap', e, hc⟩ := h
  obtain ⟨rfl, rfl⟩ : a = a' ∧ cap = cap' := by simpa using e
  refine ⟨a, cap, by rw [hl], ?_⟩
  rcases hc with hc | ⟨b, off, ea, hc⟩
  · left; rw [hc]; simp
  · right
    refine ⟨b, off, ea, fun j u hu => hc j u ?_⟩
    have e2 : l.flatMap enc = (l.take k).flatMap enc ++ (l.drop k).flatMap enc := by rw [← List.flatMap_append, List.take_append_drop]
    rw [e2, List.getElem?_append_left (List.getElem?_eq_some_iff.1 hu).1]
    exact hu
theorem rowDrop {α : Type} {enc : α → List Value} {c : Nat} (hc5 : ∀ x, (enc x).length = c) {w : World} {b off cap : Nat} {l : List α} (h : RowK enc w (.slice (some ⟨b, off, none⟩) l.length cap) l) (k : Nat) (hk : k ≤ l.length) (cap2 : Nat) : RowK enc w (.slice (some ⟨b, off + k * c, none⟩) (l.length - k) cap2) (l.drop k) := by
  have hl : (l.drop k).length = l.length - k := List.length_drop
  obtain ⟨a', cap', e, hc⟩ := h
  refine ⟨_, cap2, by rw [hl], ?_⟩
  rcases hc with hc | ⟨b', off', ea, hc⟩
  · left; rw [hc]; simp
  · right
    obtain ⟨⟨rfl, rfl⟩, rfl⟩ : (b = b' ∧ off = off') ∧ cap = cap' := by simpa [ea] using e
    refine ⟨b, off + k * c, rfl, fun j u hu => ?_⟩
    have e2 : l.flatMap enc = (l.take k).flatMap enc ++ (l.drop k).flatMap enc := by rw [← List.flatMap_append, List.take_append_drop]
    have l2 : ((l.take k).flatMap enc).length = k * c := by rw [flat_len enc c hc5, List.length_take]; congr 1; omega
    have := hc (k * c + j) u (by rw [e2, List.getElem?_append_right (by omega), l2, Nat.add_sub_cancel_left]; exact hu)
    rwa [← Nat.add_assoc] at this
theorem rowK_one (w : World) (x : Rq) (t : TypeId) : RowK encQ (w.alloc (.cells #[.int .i64 x.1, .string x.2.1, .int .i64 x.2.2.1, .int .i64 x.2.2.2.1, .int .i64 x.2.2.2.2] t)) (.slice (some ⟨w.heap.size, 0, none⟩) 1 1) [x] := by
  refine ⟨_, 1, rfl, Or.inr ⟨_, 0, rfl, fun j u hu => ?_⟩⟩
  have hu' : (encQ x)[j]? = some u := by simpa using hu
  have : j < 5 := (List.getElem?_eq_some_iff.1 hu').1
  have : j = 0 ∨ j = 1 ∨ j = 2 ∨ j = 3 ∨ j = 4 := by omega
  rw [Nat.zero_add]
  rcases this with rfl | rfl | rfl | rfl | rfl <;> (simp [encQ] at hu'; subst hu'; simp)
set_option maxRecDepth 100000 in
set_option maxHeartbeats 8000000 in
theorem refAdd_any (O : List Rq) (r : Rq) (v : Value) (w : World) (hr : Rw w v O) (hO : O.Pairwise ltQ) (hl : O.length ≤ 1000000) :
    Calls Tryd.prog 8 #[v, agQ r] w (AddA O r v w) := by
  have hv := hr.1
  have HV := Lib.hid hv
  have HO := Lib.hid hO
  obtain ⟨aa, ca, rfl, xa⟩ := rowK_at hv
  have HRW := Lib.hid hr
  have b0 : Below w.heap.size w (w.alloc (.cells #[.int .i64 r.1, .string r.2.1, .int .i64 r.2.2.1, .int .i64 r.2.2.2.1, .int .i64 r.2.2.2.2] 34)) := (Below.refl _ _).alloc (Nat.le_refl _) _
  have HB := Lib.hid b0
  have HR := Lib.hid (QBx.new w r 34)
  obtain ⟨r1, nm, r2, r3, r4⟩ := r
  dsimp only at HR HB ⊢
  clear hr hv hO xa b0
  go_enter Tryd.func8, Tryd.ntmps8
  go_upto_block 0 with fail
  generalize w.alloc (.cells #[.int .i64 r1, .string nm, .int .i64 r2, .int .i64 r3, .int .i64 r4] 34) = W0 at HB HR ⊢
  go_cut [5] from 7 to 49 (fun s5 wx => ∃ k : Nat, s5 = .int .i64 k ∧ k ≤ O.length ∧ (∀ j, k ≤ j → j < O.length → ltQ (r1, nm, r2, r3, r4) (O.getD j zq)) ∧ (0 < k → ¬ ltQ (r1, nm, r2, r3, r4) (O.getD (k - 1) zq)) ∧ Below W0.heap.size W0 wx)
  case first =>
    go_wp2_with fail
    go_loopw [5] (fun kv wr => ∃ k : Nat, kv = .int .i64 k ∧ k ≤ O.length ∧ (∀ j, k ≤ j → j < O.length → ltQ (r1, nm, r2, r3, r4) (O.getD j zq)) ∧ Below W0.heap.size W0 wr) (fun kv _ => (intOf kv).toNat)
    case atStart => exact ⟨O.length, rfl, Nat.le_refl _, fun j h1 h2 => by omega, Below.refl _ _⟩
    case round =>
      obtain ⟨k, rfl, hk, hgt, hD⟩ := hrel
      have HD := Lib.hid hD
      have GT := Lib.hid hgt
      have HK := Lib.hid hk
      obtain ⟨t0, t1, t2, t3, t4⟩ := HR.out.on hD
      dsimp only at t0 t1 t2 t3 t4
      rcases Nat.eq_zero_or_pos k with h0 | h0
      · have H2 : Hid (0 < k → ¬ ltQ (r1, nm, r2, r3, r4) (O.getD (k - 1) zq)) := Lib.hid (fun q => by omega)
        have d7 : decide ((k : Int) > 0) = false := decide_eq_false (by omega)
        have d8 : decide ((0 : Int) < (k : Int)) = false := decide_eq_false (by omega)
        have d9 : decide (0 < k) = false := decide_eq_false (by omega)
        clear h0 hD hgt
        have tl := cell_in t0
        go_wp2_with fail
        go_quiet (fail)
        go_wp2
        go_meet
        case rel => exact ⟨k, rfl, HK.out, GT.out, H2.out, below_drewN HD.out _⟩
      · obtain ⟨j, hj⟩ : ∃ j, k = j + 1 := ⟨k - 1, by omega⟩
        obtain ⟨a2, c2, e2, hc⟩ := rowK_at (HV.out.on (HB.out.trans (hD.mono HB.out.size)))
        obtain ⟨rfl, rfl⟩ : aa = a2 ∧ ca = c2 := by simpa using e2
        rcases hc with hc | ⟨b, off, rfl, hc⟩
        · rw [hc] at hk; simp at hk; omega
        have cP := hc j (by omega)
        have KO := Lib.hid (fun W (_ : Below wr.heap.size wr W) => refOrder_any (O.getD j zq) (r1, nm, r2, r3, r4) W)
        have CP := Lib.hid (oc_pos (O.getD j zq) (r1, nm, r2, r3, r4))
        have GN : Hid (ltQ (r1, nm, r2, r3, r4) (O.getD j zq) → ∀ m, j ≤ m → m < O.length → ltQ (r1, nm, r2, r3, r4) (O.getD m zq)) := Lib.hid (fun z m h1 h2 => by
          rcases (by omega : m = j ∨ k ≤ m) with q | q
          · rw [q]; exact z
          · exact GT.out m q h2)
        have L2 : Hid (¬ ltQ (r1, nm, r2, r3, r4) (O.getD j zq) → 0 < k → ¬ ltQ (r1, nm, r2, r3, r4) (O.getD (k - 1) zq)) := Lib.hid (fun z _ => by
          rw [show k - 1 = j by omega]; exact z)
        generalize oc (O.getD j zq) (r1, nm, r2, r3, r4) = CV at KO CP
        generalize O.getD j zq = P at cP KO CP GN L2
        obtain ⟨P1, PN1, P2, P3, P4⟩ := P
        obtain ⟨p0, p1, p2, p3, p4⟩ := cP
        dsimp only at p0 p1 p2 p3 p4 KO
        have n0 := cell_regrown t0
        have n1 := cell_regrown t1
        have n2 := cell_regrown t2
        have n3 := cell_regrown t3
        have n4 := cell_regrown t4
        have n7 := cell_regrown p0
        have n8 := cell_regrown p1
        have n9 := cell_regrown p2
        have n10 := cell_regrown p3
        have n11 := cell_regrown p4
        have q1 : (0 : Int) ≤ (k : Int) - 1 := by omega
        have q2 : (k : Int) - 1 < (O.length : Int) := by omega
        have q3 : ((k : Int) - 1).toNat = j := by omega
        have w1 : IntKind.i64.wrap ((k : Int) - 1) = (k : Int) - 1 := by rw [IntKind.wrap_i64]; omega
        have w2 : wrap64 ((k : Int) - 1) = (k : Int) - 1 := by unfold wrap64; omega
        have d7 : decide ((k : Int) > 0) = true := decide_eq_true (by omega)
        have d8 : decide ((0 : Int) < (k : Int)) = true := decide_eq_true (by omega)
        have d9 : decide (0 < k) = true := decide_eq_true h0
        have HJ := Lib.hid hj
        clear h0 hc e2 hj hD hgt t0 t1 t2 t3 t4 p0 p1 p2 p3 p4
        go_wp2_with fail
        by_cases hcv : 0 < CV
        · have G := Lib.hid (GN.out (CP.out.1 hcv))
          have d10 : decide (CV > 0) = true := decide_eq_true hcv
          have d11 : decide (0 < CV) = true := decide_eq_true hcv
          clear GN L2 CP hcv
          refine wp_region_quiet_below (by kernel_rfl) (by kernel_rfl) ?_
          repeat (go_big_quiet_step (first | (go_at_call 19; exact Calls.regrown_of (KO.out _ (below_regrown wr _ _)))))
          refine wpQuiet_nil ?_
          intro _ hw'
          obtain ⟨⟨dq, osq⟩, hw''⟩ := hw'
          subst hw''
          have hb5 := Lib.hid (HD.out.trans ((below_regrown wr dq osq).mono HD.out.size))
          clear n0 n1 n2 n3 n4 n7 n8 n9 n10 n11 KO
          go_wp2
          go_roundw
          case rel => exact ⟨j, by have := HJ.out; first | go_num | (congr 1; omega), by have := HJ.out; have := HK.out; omega, G.out, hb5.out⟩
          case measure => simp [intOf]; omega
        · have H2 := Lib.hid (L2.out (fun z => hcv (CP.out.2 z)))
          have d10 : decide (CV > 0) = false := decide_eq_false hcv
          have d11 : decide (0 < CV) = false := decide_eq_false hcv
          clear GN L2 CP hcv
          refine wp_region_quiet_below (by kernel_rfl) (by kernel_rfl) ?_
          repeat (go_big_quiet_step (first | (go_at_call 19; exact Calls.regrown_of (KO.out _ (below_regrown wr _ _)))))
          refine wpQuiet_nil ?_
          intro _ hw'
          obtain ⟨⟨dq, osq⟩, hw''⟩ := hw'
          subst hw''
          have hb5 := Lib.hid (HD.out.trans ((below_regrown wr dq osq).mono HD.out.size))
          clear n0 n1 n2 n3 n4 n7 n8 n9 n10 n11 KO
          go_wp2
          go_meet
          case rel => exact ⟨k, rfl, HK.out, GT.out, H2.out, hb5.out⟩
  case rest =>
  obtain ⟨k, rfl, hk, hgt, hlo, hD⟩ := hcut
  obtain ⟨W1, hW1⟩ := wnm5 hD
  subst hW1
  have HD := Lib.hid hD
  have GT := Lib.hid hgt
  have LO := Lib.hid hlo
  have HK := Lib.hid hk
  clear hgt hlo
  go_upto_region 4 with fail
  go_cut [34] from 7 to 49 (fun sc wx => ∃ eq : Bool, sc = .bool eq ∧ (eq = true → (r1, nm, r2, r3, r4) ∈ O) ∧ (eq = false → 0 < k → ltQ (O.getD (k - 1) zq) (r1, nm, r2, r3, r4)) ∧ Below W1.heap.size W1 wx)
  case first =>
    obtain ⟨t0, t1, t2, t3, t4⟩ := HR.out.on hD
    dsimp only at t0 t1 t2 t3 t4
    rcases Nat.eq_zero_or_pos k with h0 | h0
    · have H2 : Hid (0 < k → ltQ (O.getD (k - 1) zq) (r1, nm, r2, r3, r4)) := Lib.hid (fun q => by omega)
      have d7 : decide ((k : Int) > 0) = false := decide_eq_false (by omega)
      have d8 : decide ((0 : Int) < (k : Int)) = false := decide_eq_false (by omega)
      have d9 : decide (0 < k) = false := decide_eq_false (by omega)
      clear h0 hD
      have tl := cell_in t0
      go_quiet (fail)
      go_wp2
      go_meet
      case rel => exact ⟨false, rfl, fun q => (by cases q), fun _ => H2.out, below_drewN (Below.refl _ _) _⟩
    · obtain ⟨j, hj⟩ : ∃ j, k = j + 1 := ⟨k - 1, by omega⟩
      obtain ⟨a2, c2, e2, hc⟩ := rowK_at (HV.out.on (HB.out.trans (hD.mono HB.out.size)))
      obtain ⟨rfl, rfl⟩ : aa = a2 ∧ ca = c2 := by simpa using e2
      rcases hc with hc | ⟨b, off, rfl, hc⟩
      · rw [hc] at hk; simp at hk; omega
      have cP := hc j (by omega)
      have PM : O.getD j zq ∈ O := by rw [List.getD_eq_getElem?_getD, List.getElem?_eq_getElem (by omega)]; exact List.getElem_mem (by omega)
      have KO := Lib.hid (fun W (_ : Below W1.heap.size W1 W) => refOrder_any (O.getD j zq) (r1, nm, r2, r3, r4) W)
      have CE := oc_cm.eq (O.getD j zq) (r1, nm, r2, r3, r4)
      have LJ := LO.out h0
      rw [show k - 1 = j by omega] at LJ
      have E1 : Hid ((oc (O.getD j zq) (r1, nm, r2, r3, r4) == 0) = true → (r1, nm, r2, r3, r4) ∈ O) := Lib.hid (fun q => by rw [← CE.1 (by simpa using q)]; exact PM)
      have E2 : Hid ((oc (O.getD j zq) (r1, nm, r2, r3, r4) == 0) = false → 0 < k → ltQ (O.getD (k - 1) zq) (r1, nm, r2, r3, r4)) := Lib.hid (fun q _ => by
        rw [show k - 1 = j by omega]
        exact ltQ_tot LJ (fun z => by have := CE.2 z; rw [this] at q; exact absurd q (by decide)))
      clear CE LJ PM
      generalize oc (O.getD j zq) (r1, nm, r2, r3, r4) = CV at KO E1 E2
      generalize O.getD j zq = P at cP KO
      obtain ⟨P1, PN1, P2, P3, P4⟩ := P
      obtain ⟨p0, p1, p2, p3, p4⟩ := cP
      dsimp only at p0 p1 p2 p3 p4 KO
      have n0 := cell_regrown t0
      have n1 := cell_regrown t1
      have n2 := cell_regrown t2
      have n3 := cell_regrown t3
      have n4 := cell_regrown t4
      have n7 := cell_regrown p0
      have n8 := cell_regrown p1
      have n9 := cell_regrown p2
      have n10 := cell_regrown p3
      have n11 := cell_regrown p4
      have q1 : (0 : Int) ≤ (k : Int) - 1 := by omega
      have q2 : (k : Int) - 1 < (O.length : Int) := by omega
      have q3 : ((k : Int) - 1).toNat = j := by omega
      have w1 : IntKind.i64.wrap ((k : Int) - 1) = (k : Int) - 1 := by rw [IntKind.wrap_i64]; omega
      have w2 : wrap64 ((k : Int) - 1) = (k : Int) - 1 := by unfold wrap64; omega
      have d7 : decide ((k : Int) > 0) = true := decide_eq_true (by omega)
      have d8 : decide ((0 : Int) < (k : Int)) = true := decide_eq_true (by omega)
      have d9 : decide (0 < k) = true := decide_eq_true h0
      clear h0 hc e2 hj hD t0 t1 t2 t3 t4 p0 p1 p2 p3 p4
      refine wp_region_quiet_below (by kernel_rfl) (by kernel_rfl) ?_
      repeat (go_big_quiet_step (first | (go_at_call 19; exact Calls.regrown_of (KO.out _ (below_regrown W1 _ _)))))
      refine wpQuiet_nil ?_
      intro _ hw'
      obtain ⟨⟨dq, osq⟩, hw''⟩ := hw'
      subst hw''
      have hb5 := Lib.hid (below_regrown W1 dq osq)
      clear n0 n1 n2 n3 n4 n7 n8 n9 n10 n11 KO
      go_wp2
      go_meet
      case rel => exact ⟨CV == 0, rfl, E1.out, E2.out, hb5.out⟩
  case rest =>
  obtain ⟨eq, rfl, heq, hne, hb⟩ := hcut
  obtain ⟨W2, hW2⟩ := wnm5 hb
  subst hW2
  have B1 := HB.out.trans (hD.mono HB.out.size)
  have B2 := Lib.hid (B1.trans (hb.mono B1.size))
  have HR2 := Lib.hid ((HR.out.on hD).on hb)
  have HV2 := Lib.hid (HV.out.on B2.out)
  clear hD hb HD HR HB B1 HV
  rcases eq with _ | _
  · have PU := Lib.hid (show Put O (r1, nm, r2, r3, r4) (O.take k ++ (r1, nm, r2, r3, r4) :: O.drop k) from ⟨insR_rise HO.out hk GT.out (hne rfl), fun z => insR_mem, by simp; omega⟩)
    clear heq hne GT LO
    rcases HRW.out.2 with ⟨e9, hO9⟩ | ⟨b, off, cap9, e9, oc⟩
    · obtain ⟨rfl, _, rfl⟩ : aa = none ∧ O.length = 0 ∧ ca = 0 := by simpa using e9
      subst hO9
      obtain rfl : k = 0 := by simpa using hk
      have PN : Hid (Put [] (r1, nm, r2, r3, r4) ([] ++ ([(r1, nm, r2, r3, r4)] ++ []))) := Lib.hid (by simpa using PU.out)
      clear PU HK
      obtain ⟨v3, w3, ap3, o3, b3⟩ := app5_any (l := []) (mo := []) (World.ownsRow_nil W2 W2.heap.size 34 5) (RowK.nil _ _) (Nat.le_refl _) (by simp <;> omega)
      rw [List.nil_append] at o3
      have AP3 := Lib.hid ap3
      have B3 := Lib.hid (B2.out.trans (b3.mono B2.out.size))
      have HR3 := Lib.hid (HR2.out.on b3)
      have O3 := Lib.hid o3
      have S3 := b3.size
      have SB3 := Lib.hid b3
      clear ap3 b3 o3
      have b4 : Below w3.heap.size w3 (w3.alloc (.cells #[.int .i64 r1, .string nm, .int .i64 r2, .int .i64 r3, .int .i64 r4] 34)) := (Below.refl _ _).alloc (Nat.le_refl _) _
      obtain ⟨v5, w5, ap5, o5, b5⟩ := app5_any (mo := [(r1, nm, r2, r3, r4)]) (ow_below O3.out b4) (rowK_one w3 (r1, nm, r2, r3, r4) 34) (Nat.le_trans S3 b4.size) (by simp <;> omega)
      have AP5 := Lib.hid ap5
      have b45 : Below W2.heap.size w3 w5 := (b4.mono S3).trans b5
      have B5 := Lib.hid (B3.out.trans (b45.mono B2.out.size))
      have HV5 := Lib.hid (HV2.out.on (SB3.out.trans b45))
      have O5 := Lib.hid o5
      have S5 := Nat.le_trans S3 b45.size
      obtain ⟨t0, t1, t2, t3, t4⟩ := HR3.out
      dsimp only at t0 t1 t2 t3 t4
      have tl := cell_in t0
      obtain ⟨v7, w7, ap7, o7, b7⟩ := app5_any (mo := []) O5.out (RowK.nil _ _) S5 (by simp <;> omega)
      have AP7 := Lib.hid ap7
      have B7 := Lib.hid (B5.out.trans (b7.mono B2.out.size))
      have O7 := Lib.hid (own_rw o7)
      have FB : Hid (∀ k, v7.ownBlock = some k → w.heap.size ≤ k) := Lib.hid (fun k hk => Nat.le_trans B2.out.size (o7.lt k hk).1)
      rw [List.append_assoc] at O7
      clear ap5 b45 b5 o5 b4 ap7 o7 b7
      go_upto_region 8 with (at_builtin; refine wpList_app rfl _ _ 23 rfl _ _ _ _ rfl rfl AP3.out ?_)
      go_upto_region 9 with (at_builtin; refine wpList_app rfl _ _ 23 rfl _ _ _ _ rfl rfl AP5.out ?_)
      clear t0 t1 t2 t3 t4 tl AP3 AP5
      go_wp2_with (at_builtin; refine wpList_app rfl _ _ 23 rfl _ _ _ _ rfl rfl AP7.out ?_)
      go_ret
      exact ⟨_, _, rfl, O7.out, PN.out, B7.out, fun k hk => Or.inr (FB.out k hk)⟩
    · obtain ⟨rfl, rfl⟩ : aa = some ⟨b, off, none⟩ ∧ ca = cap9 := by simpa using e9
      clear e9
      by_cases hck : ca = k
      · subst hck
        have hz : O.length - ca = 0 := by omega
        have PA : Hid (Put O (r1, nm, r2, r3, r4) (O.take ca ++ ([(r1, nm, r2, r3, r4)] ++ []))) := Lib.hid (by have := PU.out; rw [List.drop_of_length_le (by omega)] at this; exact this)
        clear PU HK
        obtain ⟨v3, w3, ap3, o3, b3⟩ := app5_any (l := []) (mo := O.take ca) (World.ownsRow_nil W2 W2.heap.size 34 5) (rowTake HV2.out ca hk) (Nat.le_refl _) (by simp <;> omega)
        rw [List.nil_append] at o3
        have AP3 := Lib.hid ap3
        have B3 := Lib.hid (B2.out.trans (b3.mono B2.out.size))
        have HR3 := Lib.hid (HR2.out.on b3)
        have O3 := Lib.hid o3
        have S3 := b3.size
        have SB3 := Lib.hid b3
        clear ap3 b3 o3
        have b4 : Below w3.heap.size w3 (w3.alloc (.cells #[.int .i64 r1, .string nm, .int .i64 r2, .int .i64 r3, .int .i64 r4] 34)) := (Below.refl _ _).alloc (Nat.le_refl _) _
        obtain ⟨v5, w5, ap5, o5, b5⟩ := app5_any (mo := [(r1, nm, r2, r3, r4)]) (ow_below O3.out b4) (rowK_one w3 (r1, nm, r2, r3, r4) 34) (Nat.le_trans S3 b4.size) (by simp <;> omega)
        have AP5 := Lib.hid ap5
        have b45 : Below W2.heap.size w3 w5 := (b4.mono S3).trans b5
        have B5 := Lib.hid (B3.out.trans (b45.mono B2.out.size))
        have HV5 := Lib.hid (HV2.out.on (SB3.out.trans b45))
        have O5 := Lib.hid o5
        have S5 := Nat.le_trans S3 b45.size
        obtain ⟨t0, t1, t2, t3, t4⟩ := HR3.out
        dsimp only at t0 t1 t2 t3 t4
        have tl := cell_in t0
        obtain ⟨v7, w7, ap7, o7, b7⟩ := app5_any (mo := []) O5.out (⟨some ⟨b, off, none⟩, 0, rfl, Or.inl rfl⟩) S5 (by simp <;> omega)
        have AP7 := Lib.hid ap7
        have B7 := Lib.hid (B5.out.trans (b7.mono B2.out.size))
        have O7 := Lib.hid (own_rw o7)
        have FB : Hid (∀ k, v7.ownBlock = some k → w.heap.size ≤ k) := Lib.hid (fun k hk => Nat.le_trans B2.out.size (o7.lt k hk).1)
        rw [List.append_assoc] at O7
        clear ap5 b45 b5 o5 b4 ap7 o7 b7
        go_upto_region 8 with (at_builtin; refine wpList_app rfl _ _ 23 rfl _ _ _ _ rfl rfl AP3.out ?_)
        go_upto_region 9 with (at_builtin; refine wpList_app rfl _ _ 23 rfl _ _ _ _ rfl rfl AP5.out ?_)
        clear t0 t1 t2 t3 t4 tl AP3 AP5
        go_wp2_with (at_builtin; refine wpList_app rfl _ _ 23 rfl _ _ _ _ rfl rfl AP7.out ?_)
        go_ret
        exact ⟨_, _, rfl, O7.out, PA.out, B7.out, fun k hk => Or.inr (FB.out k hk)⟩
      · have kc : k ≤ ca := by omega
        obtain ⟨v3, w3, ap3, o3, b3⟩ := app5_any (l := []) (mo := O.take k) (World.ownsRow_nil W2 W2.heap.size 34 5) (rowTake HV2.out k hk) (Nat.le_refl _) (by simp <;> omega)
        rw [List.nil_append] at o3
        have AP3 := Lib.hid ap3
        have B3 := Lib.hid (B2.out.trans (b3.mono B2.out.size))
        have HR3 := Lib.hid (HR2.out.on b3)
        have O3 := Lib.hid o3
        have S3 := b3.size
        have SB3 := Lib.hid b3
        clear ap3 b3 o3
        have b4 : Below w3.heap.size w3 (w3.alloc (.cells #[.int .i64 r1, .string nm, .int .i64 r2, .int .i64 r3, .int .i64 r4] 34)) := (Below.refl _ _).alloc (Nat.le_refl _) _
        obtain ⟨v5, w5, ap5, o5, b5⟩ := app5_any (mo := [(r1, nm, r2, r3, r4)]) (ow_below O3.out b4) (rowK_one w3 (r1, nm, r2, r3, r4) 34) (Nat.le_trans S3 b4.size) (by simp <;> omega)
        have AP5 := Lib.hid ap5
        have b45 : Below W2.heap.size w3 w5 := (b4.mono S3).trans b5
        have B5 := Lib.hid (B3.out.trans (b45.mono B2.out.size))
        have HV5 := Lib.hid (HV2.out.on (SB3.out.trans b45))
        have O5 := Lib.hid o5
        have S5 := Nat.le_trans S3 b45.size
        obtain ⟨t0, t1, t2, t3, t4⟩ := HR3.out
        dsimp only at t0 t1 t2 t3 t4
        have tl := cell_in t0
        obtain ⟨v7, w7, ap7, o7, b7⟩ := app5_any (mo := O.drop k) O5.out (rowDrop (c := 5) (fun _ => rfl) HV5.out k hk (ca - k)) S5 (by simp <;> omega)
        have AP7 := Lib.hid ap7
        have B7 := Lib.hid (B5.out.trans (b7.mono B2.out.size))
        have O7 := Lib.hid (own_rw o7)
        have FB : Hid (∀ k, v7.ownBlock = some k → w.heap.size ≤ k) := Lib.hid (fun k hk => Nat.le_trans B2.out.size (o7.lt k hk).1)
        rw [List.append_assoc] at O7
        clear ap5 b45 b5 o5 b4 ap7 o7 b7
        go_upto_region 8 with (at_builtin; refine wpList_app rfl _ _ 23 rfl _ _ _ _ rfl rfl AP3.out ?_)
        go_upto_region 9 with (at_builtin; refine wpList_app rfl _ _ 23 rfl _ _ _ _ rfl rfl AP5.out ?_)
        clear t0 t1 t2 t3 t4 tl AP3 AP5
        go_wp2_with (at_builtin; refine wpList_app rfl _ _ 23 rfl _ _ _ _ rfl rfl AP7.out ?_)
        go_ret
        exact ⟨_, _, rfl, O7.out, PU.out, B7.out, fun k hk => Or.inr (FB.out k hk)⟩
  · have PU := Lib.hid (show Put O (r1, nm, r2, r3, r4) O from ⟨HO.out, fun z => ⟨fun q => Or.inl q, fun q => q.elim id (fun e => by rw [e]; exact heq rfl)⟩, by omega⟩)
    go_wp2
    go_ret
    exact ⟨_, O, rfl, HRW.out.on B2.out, PU.out, B2.out, fun k hk => Or.inl hk⟩
end Go.Proofs.YtpnbnnndpbjgmaaDoor.Qu
