/-
  What is proved here: what busy.Free answers, whatever it is handed (a contract over the translation).
  What is proved here: what busy.freeAmong, Free, SlotAmong and Slot answer, whatever they are handed (contracts over the translation).
-/
import Derived.Test.YtoncfgfjdlgfcaaGreatDoorBZO
namespace Go.Proofs.YtoncfgfjdlgfcaaGreatDoor.Bz
open Go.RowKit

/-- All below a number is as it was but for two blocks. -/
structure Kb (n0 bf bl : Nat) (w w' : World) : Prop where
  os : w'.os = w.os
  tape : w'.tape = w.tape
  output : w'.output = w.output
  size : w.heap.size ≤ w'.heap.size
  block : ∀ k, k < n0 → k ≠ bf → k ≠ bl → w'.heap[k]? = w.heap[k]?
theorem Kb.refl (n0 bf bl : Nat) (w : World) : Kb n0 bf bl w w := ⟨rfl, rfl, rfl, Nat.le_refl _, fun _ _ _ _ => rfl⟩
theorem Kb.on {n0 bf bl : Nat} {w w' w2 : World} (h : Kb n0 bf bl w w') (q : Below n0 w' w2) : Kb n0 bf bl w w2 := ⟨q.os.trans h.os, q.tape.trans h.tape, q.output.trans h.output, Nat.le_trans h.size q.size, fun k hk h1 h2 => (q.block k hk).trans (h.block k hk h1 h2)⟩
theorem Kb.set {n0 bf bl : Nat} {w w' : World} (h : Kb n0 bf bl w w') (b o : Nat) (v : Value) (hb : b = bf ∨ b = bl) : Kb n0 bf bl w (w'.setCell ⟨b, o, none⟩ v) :=
  ⟨h.os, h.tape, h.output, Nat.le_trans h.size (by simp), fun k hk h1 h2 => (Below.heap_setCell w' ⟨b, o, none⟩ v k (by show k ≠ b; omega)).trans (h.block k hk h1 h2)⟩
theorem Kb.below {n0 bf bl m : Nat} {w w' : World} (h : Kb n0 bf bl w w') (hm : m ≤ n0) (h1 : m ≤ bf) (h2 : m ≤ bl) : Below m w w' := ⟨h.os, h.tape, h.output, h.size, fun k hk => h.block k (by omega) (by omega) (by omega)⟩
theorem Kb.cell {n0 bf bl : Nat} {w w' : World} (h : Kb n0 bf bl w w') {b o : Nat} (hb : b < n0) (h1 : b ≠ bf) (h2 : b ≠ bl) : w'.cell? ⟨b, o, none⟩ = w.cell? ⟨b, o, none⟩ := by simp [World.cell?, h.block b hb h1 h2]
theorem set_same {w : World} {b o : Nat} {v u : Value} (h : w.cell? ⟨b, o, none⟩ = some u) : (w.setCell ⟨b, o, none⟩ v).cell? ⟨b, o, none⟩ = some v := by
  exact World.cell?_setCell_same w ⟨b, o, none⟩ v h
theorem set_other {w : World} {b o c p : Nat} {v : Value} (h : c ≠ b) : (w.setCell ⟨b, o, none⟩ v).cell? ⟨c, p, none⟩ = w.cell? ⟨c, p, none⟩ := by
  simp [World.cell?, Below.heap_setCell w ⟨b, o, none⟩ v c (by show c ≠ b; exact h)]
theorem ob_set {w : World} {n0 b o : Nat} {v u : Value} {l : List Bz} (h : Ob w n0 u l) (hb : b < n0) : Ob (w.setCell ⟨b, o, none⟩ v) n0 u l := by
  refine ⟨h.1, ?_⟩
  rcases h.2 with h2 | ⟨g, cap, cur, hv, hg, hh, hr⟩
  · exact Or.inl h2
  · exact Or.inr ⟨g, cap, cur, hv, hg, (Below.heap_setCell w ⟨b, o, none⟩ v g (by show g ≠ b; omega)).trans hh, hr⟩
/-- How far Free has come: where it is, and what was free up to there. -/
structure Fs (w2 : World) (n0 bf bl : Nat) (a : Int) (u : Value) (g : List Bz) (w : World) : Prop where
  low : bf < n0 ∧ bl < n0 ∧ bf ≠ bl ∧ n0 ≤ w.heap.size
  at_ : w.cell? ⟨bf, 0, none⟩ = some (.int .i64 a)
  atf : w.frozen? ⟨bf, 0, none⟩ = false
  li : w.cell? ⟨bl, 0, none⟩ = some u
  lif : w.frozen? ⟨bl, 0, none⟩ = false
  row : Ob w n0 u g
  kb : Kb n0 bf bl w2 w
theorem Fs.on {w2 : World} {n0 bf bl : Nat} {a : Int} {u : Value} {g : List Bz} {w w' : World} (h : Fs w2 n0 bf bl a u g w) (q : Below w.heap.size w w') : Fs w2 n0 bf bl a u g w' := by
  obtain ⟨l1, l2, l3, l4⟩ := h.low
  exact ⟨⟨l1, l2, l3, Nat.le_trans l4 q.size⟩, (q.cell (p := ⟨bf, 0, none⟩) (by show bf < _; omega)).trans h.at_, (q.frozen (p := ⟨bf, 0, none⟩) (by show bf < _; omega)).trans h.atf, (q.cell (p := ⟨bl, 0, none⟩) (by show bl < _; omega)).trans h.li, (q.frozen (p := ⟨bl, 0, none⟩) (by show bl < _; omega)).trans h.lif, ow_below h.row q, h.kb.on (q.mono l4)⟩
/-- One more is free. -/
theorem Fs.more {w2 : World} {n0 bf bl : Nat} {a : Int} {u v : Value} {g g' : List Bz} {w w' : World} (h : Fs w2 n0 bf bl a u g w) (q : Below n0 w w') (o : Ob w' n0 v g') : Fs w2 n0 bf bl a v g' (w'.setCell ⟨bl, 0, none⟩ v) := by
  obtain ⟨l1, l2, l3, l4⟩ := h.low
  have c1 := (q.cell (p := ⟨bf, 0, none⟩) (by show bf < _; omega)).trans h.at_
  have c2 := (q.cell (p := ⟨bl, 0, none⟩) (by show bl < _; omega)).trans h.li
  refine ⟨⟨l1, l2, l3, Nat.le_trans l4 (Nat.le_trans q.size (by simp))⟩, (set_other l3).trans c1, ?_, set_same c2, ?_, ob_set o l2, (h.kb.on q).set bl 0 v (Or.inr rfl)⟩
  · rw [World.frozen?_setCell]
    exact (q.frozen (p := ⟨bf, 0, none⟩) (by show bf < _; omega)).trans h.atf
  · rw [World.frozen?_setCell]
    exact (q.frozen (p := ⟨bl, 0, none⟩) (by show bl < _; omega)).trans h.lif
/-- On to the next. -/
theorem Fs.go {w2 : World} {n0 bf bl : Nat} {a : Int} {u : Value} {g : List Bz} {w : World} (h : Fs w2 n0 bf bl a u g w) (a' : Int) : Fs w2 n0 bf bl a' u g (w.setCell ⟨bf, 0, none⟩ (.int .i64 a')) := by
  obtain ⟨l1, l2, l3, l4⟩ := h.low
  refine ⟨⟨l1, l2, l3, Nat.le_trans l4 (by simp)⟩, set_same h.at_, by rw [World.frozen?_setCell]; exact h.atf, (set_other (Ne.symm l3)).trans h.li, by rw [World.frozen?_setCell]; exact h.lif, ob_set h.row l1, h.kb.set bf 0 _ (Or.inl rfl)⟩
/-- What is free up to an end. -/
def frp (a e : Int) : List Bz := if a < e then [(a, e)] else []
set_option maxRecDepth 100000 in
theorem fup_any (w2 : World) (n0 bf bl : Nat) (a e : Int) (u : Value) (g : List Bz) (w : World) (h : Fs w2 n0 bf bl a u g w) (hg : g.length ≤ 1000) :
    Calls Tryz.prog 137 #[.int .i64 e, .pointer (some ⟨bf, 0, none⟩), .pointer (some ⟨bl, 0, none⟩)] w fun e' w' => e' = .returned (.tuple #[]) ∧ (∃ v, Fs w2 n0 bf bl a v (g ++ frp a e) w') ∧ (∀ k, k < w.heap.size → k ≠ bl → u.ownBlock ≠ some k → w'.heap[k]? = w.heap[k]?) ∧ w.heap.size ≤ w'.heap.size := by
  have HF := Lib.hid h
  obtain ⟨l1, l2, l3, l4⟩ := h.low
  have c1 := h.at_
  have c2 := h.li
  have c2f := h.lif
  have k1 : bf < w.heap.size := by omega
  have k2 : bl < w.heap.size := by omega
  by_cases c : a < e
  · obtain ⟨v6, w6, ap, o6, b6, k6⟩ := ap_own (a, e) h.row l4 (by omega)
    have AP := Lib.hid ap
    have d2 := (b6.cell (p := ⟨bl, 0, none⟩) (by show bl < _; omega)).trans c2
    have d2f := (b6.frozen (p := ⟨bl, 0, none⟩) (by show bl < _; omega)).trans c2f
    have kd2 := cell_in d2
    have NX : Hid (Fs w2 n0 bf bl a v6 (g ++ frp a e) (w6.setCell ⟨bl, 0, none⟩ v6)) := Lib.hid (HF.out.more b6 (by unfold frp; rw [if_pos c]; exact o6))
    have KK : Hid ((∀ k, k < w.heap.size → k ≠ bl → u.ownBlock ≠ some k → (w6.setCell ⟨bl, 0, none⟩ v6).heap[k]? = w.heap[k]?) ∧ w.heap.size ≤ (w6.setCell ⟨bl, 0, none⟩ v6).heap.size) := Lib.hid ⟨fun k hk h1 h3 => (Below.heap_setCell w6 ⟨bl, 0, none⟩ v6 k (by show k ≠ bl; exact h1)).trans (k6 k hk h3), Nat.le_trans b6.size (by simp)⟩
    obtain ⟨p6, n6, q6, ev6⟩ : ∃ p6 n6 q6, v6 = .slice p6 n6 q6 := by
      obtain ⟨p6, q6, ev6, _⟩ := Ob.rb o6
      exact ⟨p6, _, q6, ev6⟩
    subst ev6
    clear ap o6 b6 h k6
    go_enter Tryz.func137, Tryz.ntmps137
    go_wp2_with (at_builtin; refine wpl_app rfl _ _ 46 rfl _ _ _ _ rfl rfl AP.out ?_)
    go_end0
    exact ⟨rfl, ⟨_, NX.out⟩, KK.out⟩
  · have NX : Hid (Fs w2 n0 bf bl a u (g ++ frp a e) w) := Lib.hid (by unfold frp; rw [if_neg c, List.append_nil]; exact HF.out)
    clear h
    go_enter Tryz.func137, Tryz.ntmps137
    go_wp2
    go_end0
    exact ⟨rfl, ⟨_, NX.out⟩, fun _ _ _ _ => rfl, Nat.le_refl _⟩
/-- What Free tells: the fault, the list; what freeAmong does, however many there are. -/
def frF (l : List Bz) (fr t : Int) : Int := if bzF l = 0 then onF (fr, t) else bzF l
def frL (l : List Bz) (fr t : Int) : List Bz := if frF l fr t = 0 then fre t fr (nrm l) else []
def faF (l : List Bz) (fr t : Int) : Int := if reF l 0 = 0 then onF (fr, t) else reF l 0
def faL (l : List Bz) (fr t : Int) : List Bz := if faF l fr t = 0 then fre t fr (nrm l) else []
theorem faF_few {l : List Bz} {fr t : Int} (h : ¬ 200 < l.length) : faF l fr t = frF l fr t := by unfold faF frF; rw [bzF_few h]
theorem faL_few {l : List Bz} {fr t : Int} (h : ¬ 200 < l.length) : faL l fr t = frL l fr t := by unfold faL frL; rw [faF_few h]
theorem fre_step (e a : Int) (m : List Bz) (k : Nat) (h : k < m.length) : fre e a (m.drop k) = frp a (min (m.getD k (0, 0)).1 e) ++ fre e (max a (m.getD k (0, 0)).2) (m.drop (k + 1)) := by
  rw [List.drop_eq_getElem_cons h, List.getD_eq_getElem?_getD, List.getElem?_eq_getElem h]
  rfl
theorem frp_len (a e : Int) : (frp a e).length ≤ 1 := by unfold frp; split <;> simp
set_option maxRecDepth 100000 in
set_option maxHeartbeats 4000000 in
theorem fra_yes (hS : SrtH) (l : List Bz) (fr t : Int) (v : Value) (w : World) (hv : Rb w v l) (hl : l.length ≤ 900) (h : reF l 0 = 0) (h2 : onF (fr, t) = 0) :
    Calls Tryz.prog 82 #[v, .int .i64 fr, .int .i64 t] w (NmA w (fre t fr (nrm l)) 0) := by
  have b1 := below_one w (.cells #[.int .i64 fr] 3)
  have c1 : (w.alloc (.cells #[.int .i64 fr] 3)).cell? ⟨w.heap.size, 0, none⟩ = some (.int .i64 fr) := by simp
  have c1f : (w.alloc (.cells #[.int .i64 fr] 3)).frozen? ⟨w.heap.size, 0, none⟩ = false := by simp
  obtain ⟨W1, hW1⟩ : ∃ W1, W1 = w.alloc (.cells #[.int .i64 fr] 3) := ⟨_, rfl⟩
  rw [← hW1] at b1 c1 c1f
  have z1 : w.heap.size < W1.heap.size := cell_in c1
  have HW1 := Lib.hid hW1
  have B1 := Lib.hid b1
  have C1 := Lib.hid c1
  have C1f := Lib.hid c1f
  have Z1 := Lib.hid z1
  have HV := Lib.hid (hv.on b1)
  have HS := Lib.hid hS
  have GD := Lib.hid (reF_zero.1 h)
  have LL := Lib.hid hl
  have K := Lib.hid (eac_any l v W1 (hv.on b1) (Nat.le_trans hl (by decide)))
  rw [h] at K
  have M2 := nrm_len (gd_rt GD.out)
  have H2 := Lib.hid h2
  have MI : Hid (Wt 1 157785119 (nrm l)) := Lib.hid (nrm_in (gd_rt GD.out) (gd_wt GD.out))
  obtain ⟨M, hM⟩ : ∃ M, M = nrm l := ⟨_, rfl⟩
  rw [← hM] at M2 MI ⊢
  have HM := Lib.hid hM
  have M3 : M.length ≤ 900 := Nat.le_trans M2 hl
  obtain ⟨R, hR⟩ : ∃ R, R = fre t fr M := ⟨_, rfl⟩
  rw [← hR]
  have HR := Lib.hid hR
  have eg : ∀ args w, (callFunc 137 args).run Tryz.prog w = .ok (.enter 137 args) w := enters_of Tryz.func137 (by kernel_rfl) rfl
  clear b1 c1 c1f hW1 hv hS h h2 hM hR z1 hl M2
  go_enter Tryz.func82, Tryz.ntmps82
  go_upto_region 1 with fail
  rw [← HW1.out]
  go_wp2_with fail
  refine K.out.mono ?_
  rintro e w3 ⟨rfl, hb⟩
  have B3 := Lib.hid hb
  have c3 := (hb.cell (p := ⟨w.heap.size, 0, none⟩) Z1.out).trans C1.out
  have z3 := cell_in c3
  have K2 := Lib.hid (one_any (fr, t) w3)
  rw [H2.out] at K2
  have fz : fault 0 = .nilIface := rfl
  rw [fz] at K2 ⊢
  clear hb K fz
  go_wp2_with fail
  refine K2.out.mono ?_
  rintro e w4 ⟨rfl, hb⟩
  have B4 := Lib.hid hb
  clear hb K2
  have b5 := below_one w4 (.cells #[.slice none 0 0] 46)
  have c5 : (w4.alloc (.cells #[.slice none 0 0] 46)).cell? ⟨w4.heap.size, 0, none⟩ = some (.slice none 0 0) := by simp
  have c5f : (w4.alloc (.cells #[.slice none 0 0] 46)).frozen? ⟨w4.heap.size, 0, none⟩ = false := by simp
  go_upto_region 8 with fail
  obtain ⟨W5, hW5⟩ : ∃ W5, W5 = w4.alloc (.cells #[.slice none 0 0] 46) := ⟨_, rfl⟩
  rw [← hW5] at b5 c5 c5f ⊢
  have q4 : Below w3.heap.size w3 W5 := B4.out.trans (b5.mono B4.out.size)
  have q3 : Below W1.heap.size W1 W5 := B3.out.trans (q4.mono B3.out.size)
  have K5 := Lib.hid (mrg_any HS.out l v W5 (HV.out.on q3) (Nat.le_trans LL.out (by decide)) GD.out)
  rw [← HM.out] at K5
  have q5 := Lib.hid b5
  have Q3 := Lib.hid q3
  have Q4 := Lib.hid q4
  have C5 := Lib.hid c5
  have C5f := Lib.hid c5f
  have C3 := Lib.hid c3
  have ZA0 : Hid (w.heap.size < W1.heap.size ∧ W1.heap.size ≤ w3.heap.size ∧ w3.heap.size ≤ w4.heap.size ∧ w4.heap.size < W5.heap.size) := Lib.hid ⟨Z1.out, B3.out.size, B4.out.size, cell_in c5⟩
  clear b5 c5 c5f hW5 q4 q3 c3 z3
  go_wp2_with fail
  refine K5.out.mono ?_
  rintro e w6 ⟨u, rfl, ho, hb⟩
  obtain ⟨a, cap, ev, _⟩ := ho.rb
  subst ev
  have z4 := ZA0.out
  have z5 : W5.heap.size ≤ w6.heap.size := hb.size
  have d1 : w6.cell? ⟨w.heap.size, 0, none⟩ = some (.int .i64 fr) := (hb.cell (p := ⟨w.heap.size, 0, none⟩) (by show w.heap.size < _; omega)).trans ((Q4.out.cell (p := ⟨w.heap.size, 0, none⟩) (by show w.heap.size < _; omega)).trans C3.out)
  have d1f : w6.frozen? ⟨w.heap.size, 0, none⟩ = false := (hb.frozen (p := ⟨w.heap.size, 0, none⟩) (by show w.heap.size < _; omega)).trans ((Q3.out.frozen (p := ⟨w.heap.size, 0, none⟩) Z1.out).trans C1f.out)
  have d5 : w6.cell? ⟨w4.heap.size, 0, none⟩ = some (.slice none 0 0) := (hb.cell (p := ⟨w4.heap.size, 0, none⟩) (by show w4.heap.size < _; omega)).trans C5.out
  have d5f : w6.frozen? ⟨w4.heap.size, 0, none⟩ = false := (hb.frozen (p := ⟨w4.heap.size, 0, none⟩) (by show w4.heap.size < _; omega)).trans C5f.out
  have F0 : Hid (Fs w6 w6.heap.size w.heap.size w4.heap.size fr (.slice none 0 0) [] w6) := Lib.hid ⟨⟨by omega, by omega, by omega, Nat.le_refl _⟩, d1, d1f, d5, d5f, World.ownsRow_nil _ _ _ _, Kb.refl _ _ _ _⟩
  have O5 : Hid (Ob w6 W5.heap.size (.slice a M.length cap) M) := Lib.hid ho
  have OA : Hid (∀ g, (Value.slice a M.length cap).ownBlock = some g → W5.heap.size ≤ g ∧ g < w6.heap.size) := Lib.hid (fun g hg => O5.out.lt g hg)
  have BA : Hid (Below w.heap.size w w6) := Lib.hid (B1.out.trans ((Q3.out.mono B1.out.size).trans (hb.mono (Nat.le_trans B1.out.size Q3.out.size))))
  have ZA : Hid (w.heap.size < W5.heap.size ∧ w4.heap.size < W5.heap.size ∧ W5.heap.size ≤ w6.heap.size ∧ w.heap.size < w4.heap.size) := Lib.hid ⟨by omega, by omega, z5, by omega⟩
  clear z4 z5 d1 d1f d5 d5f ho hb C3 C5 C5f Q3 Q4 q5 ZA0 B4 B3 B1 HW1 C1 C1f Z1 K5
  obtain ⟨bl, hbl⟩ : ∃ bl, bl = w4.heap.size := ⟨_, rfl⟩
  obtain ⟨bf, hbf⟩ : ∃ bf, bf = w.heap.size := ⟨_, rfl⟩
  rw [← hbl, ← hbf] at F0 ⊢
  have HBL := Lib.hid hbl
  have HBF := Lib.hid hbf
  clear hbl hbf
  go_wp2_with fail
  go_loopw [30, 13] (fun i _ wr => ∃ (k : Nat) (x : Value) (at_ : Int) (g : List Bz), k ≤ M.length ∧ i = .int .i64 k ∧ Hid (Fs w6 w6.heap.size bf bl at_ x g wr) ∧ Hid (g ++ fre t at_ (M.drop k) = R) ∧ Hid (g.length ≤ k)) (fun i _ _ => M.length - (intOf i).toNat)
  case atStart => exact ⟨0, _, fr, [], Nat.zero_le _, rfl, F0, Lib.hid (by rw [HR.out]; rfl), Lib.hid (by simp)⟩
  case round =>
    obtain ⟨k, x, at_, g, hk, rfl, HF, HE, HL⟩ := hrel
    by_cases hlt : k < M.length
    · obtain ⟨b, off, rfl, _, c1, c2⟩ := rb_at O5.out.rb hlt
      obtain ⟨s1, s2⟩ := OA.out b rfl
      obtain ⟨s3, s4, s5, s6⟩ := ZA.out
      have e1 := (HF.out.kb.cell (o := off + k * 2) (b := b) (by omega) (by rw [HBF.out]; omega) (by rw [HBL.out]; omega)).trans c1
      have e2 := (HF.out.kb.cell (o := off + k * 2 + 1) (b := b) (by omega) (by rw [HBF.out]; omega) (by rw [HBL.out]; omega)).trans c2
      have el := cell_in e1
      have ST := Lib.hid (fre_step t at_ M k hlt)
      obtain ⟨X, hX⟩ : ∃ X, X = M.getD k (0, 0) := ⟨_, rfl⟩
      rw [← hX] at e1 e2 ST
      clear hX c1 c2 s1 s2 s3 s4 s5 s6
      have T3 := BBx.new wr X 99
      have b3 := below_one wr (.cells #[.int .i64 X.1, .int .i64 X.2] 99)
      obtain ⟨W7, hW7⟩ : ∃ W7, W7 = wr.alloc (.cells #[.int .i64 X.1, .int .i64 X.2] 99) := ⟨_, rfl⟩
      rw [← hW7] at T3 b3
      have HW7 := Lib.hid hW7
      have HT := Lib.hid T3
      have F6 := Lib.hid (HF.out.on b3)
      have XB : Hid (wr.heap.size < W7.heap.size ∧ w6.heap.size ≤ wr.heap.size) := Lib.hid ⟨cell_in T3.1, HF.out.low.2.2.2⟩
      clear hW7 T3 b3
      go_upto_region 12 with fail
      rw [← HW7.out]
      clear HW7 e1 e2 el
      obtain ⟨t0, t1⟩ := HT.out
      have tl := cell_in t0
      have K3 := Lib.hid (fup_any w6 w6.heap.size bf bl at_ (min X.1 t) x g W7 F6.out (by have := HL.out; omega))
      go_wp2_with fail
      refine K3.out.mono ?_
      rintro e w7 ⟨rfl, ⟨y, hF7⟩, hk7, hs7⟩
      have F7 := Lib.hid hF7
      have xk : w7.heap[wr.heap.size]? = W7.heap[wr.heap.size]? := hk7 _ XB.out.1 (by have := HF.out.low; omega) (fun e => by have := (HF.out.row.lt _ e).2; omega)
      have r0 : w7.cell? ⟨wr.heap.size, 0, none⟩ = some (.int .i64 X.1) := by rw [← t0]; simp [World.cell?, xk]
      have r1 : w7.cell? ⟨wr.heap.size, 1, none⟩ = some (.int .i64 X.2) := by rw [← t1]; simp [World.cell?, xk]
      have rl := cell_in r0
      have p0 := hF7.at_
      have p0f := hF7.atf
      have pl := cell_in p0
      have F8 := Lib.hid (hF7.go (max at_ X.2))
      have E8 : Hid ((g ++ frp at_ (min X.1 t)) ++ fre t (max at_ X.2) (M.drop (k + 1)) = R) := Lib.hid (by rw [List.append_assoc, ← ST.out, HE.out])
      have L8 : Hid ((g ++ frp at_ (min X.1 t)).length ≤ k + 1) := Lib.hid (by have := HL.out; have := frp_len at_ (min X.1 t); rw [List.length_append]; omega)
      clear hF7 K3 hk7 hs7 xk t0 t1 tl
      go_wp2
      go_roundw
      case rel => exact ⟨k + 1, y, _, _, by omega, by go_num, F8, E8, L8⟩
      case measure => simp [intOf]; omega
    · have hk2 : k = M.length := by omega
      have E9 : Hid (g ++ frp at_ t = R) := Lib.hid (by have := HE.out; rwa [hk2, List.drop_length] at this)
      have L9 := HL.out
      have K3 := Lib.hid (fup_any w6 w6.heap.size bf bl at_ t x g wr HF.out (by omega))
      clear hk2
      go_wp2_with fail
      refine K3.out.mono ?_
      rintro e w7 ⟨rfl, ⟨y, hF7⟩, _, _⟩
      have p0 := hF7.li
      have pl := cell_in p0
      have O9 : Hid (Ob w7 w.heap.size y R) := Lib.hid (by rw [← E9.out]; exact own_mono hF7.row BA.out.size)
      have B9 : Hid (Below w.heap.size w w7) := Lib.hid (BA.out.trans (hF7.kb.below BA.out.size (by rw [HBF.out]; exact Nat.le_refl _) (by rw [HBL.out]; have := ZA.out; omega)))
      clear hF7 K3
      go_wp2
      go_ret2
      exact ⟨y, rfl, O9.out, B9.out⟩
end Go.Proofs.YtoncfgfjdlgfcaaGreatDoor.Bz
namespace Go.Proofs.YtoncfgfjdlgfcaaGreatDoor.Bz
open Go.RowKit

set_option maxRecDepth 100000 in
theorem fra_any (hS : SrtH) (l : List Bz) (fr t : Int) (v : Value) (w : World) (hv : Rb w v l) (hl : l.length ≤ 900) :
    Calls Tryz.prog 82 #[v, .int .i64 fr, .int .i64 t] w (NmA w (faL l fr t) (faF l fr t)) := by
  by_cases h : reF l 0 = 0
  · have e1 : faF l fr t = onF (fr, t) := by unfold faF; rw [if_pos h]
    by_cases h2 : onF (fr, t) = 0
    · have e2 : faL l fr t = fre t fr (nrm l) := by unfold faL; rw [e1, if_pos h2]
      rw [e1, e2, h2]
      exact fra_yes hS l fr t v w hv hl h h2
    · have e2 : faL l fr t = [] := by unfold faL; rw [e1, if_neg h2]
      rw [e1, e2]
      have b1 := below_one w (.cells #[.int .i64 fr] 3)
      have c1 : (w.alloc (.cells #[.int .i64 fr] 3)).cell? ⟨w.heap.size, 0, none⟩ = some (.int .i64 fr) := by simp
      obtain ⟨W1, hW1⟩ : ∃ W1, W1 = w.alloc (.cells #[.int .i64 fr] 3) := ⟨_, rfl⟩
      rw [← hW1] at b1 c1
      have z1 : w.heap.size < W1.heap.size := cell_in c1
      have HW1 := Lib.hid hW1
      have B1 := Lib.hid b1
      have C1 := Lib.hid c1
      have K := Lib.hid (eac_any l v W1 (hv.on b1) (Nat.le_trans hl (by decide)))
      rw [h] at K
      obtain ⟨F, hF⟩ : ∃ F, F = onF (fr, t) := ⟨_, rfl⟩
      rw [← hF] at h2 ⊢
      have H2 := Lib.hid h2
      have HF := Lib.hid hF
      clear b1 c1 hW1 hv hS h h2 e1 e2 hF hl
      go_enter Tryz.func82, Tryz.ntmps82
      go_upto_region 1 with fail
      rw [← HW1.out]
      go_wp2_with fail
      refine K.out.mono ?_
      rintro e w3 ⟨rfl, hb⟩
      have B3 := Lib.hid (B1.out.trans (hb.mono B1.out.size))
      have c3 := (hb.cell (p := ⟨w.heap.size, 0, none⟩) z1).trans C1.out
      have z3 := cell_in c3
      have K2 := Lib.hid (one_any (fr, t) w3)
      rw [← HF.out, fault_not H2.out] at K2
      rw [show fault 0 = .nilIface from rfl]
      clear hb K
      go_wp2_with fail
      refine K2.out.mono ?_
      rintro e w4 ⟨rfl, hb⟩
      have B4 := Lib.hid (B3.out.trans (hb.mono B3.out.size))
      clear hb K2
      go_wp2
      go_ret2
      exact ⟨_, by rw [fault_not H2.out]; rfl, World.ownsRow_nil _ _ _ _, B4.out⟩
  · have e1 : faF l fr t = reF l 0 := by unfold faF; rw [if_neg h]
    have e2 : faL l fr t = [] := by unfold faL; rw [e1, if_neg h]
    rw [e1, e2]
    have b1 := below_one w (.cells #[.int .i64 fr] 3)
    obtain ⟨W1, hW1⟩ : ∃ W1, W1 = w.alloc (.cells #[.int .i64 fr] 3) := ⟨_, rfl⟩
    rw [← hW1] at b1
    have HW1 := Lib.hid hW1
    have B1 := Lib.hid b1
    have K := Lib.hid (eac_any l v W1 (hv.on b1) (Nat.le_trans hl (by decide)))
    have H2 := Lib.hid h
    generalize reF l 0 = F at K H2 ⊢
    clear b1 hW1 hv hS h e1 e2 hl
    go_enter Tryz.func82, Tryz.ntmps82
    go_upto_region 1 with fail
    rw [← HW1.out]
    go_wp2_with fail
    refine K.out.mono ?_
    rintro e w3 ⟨rfl, hb⟩
    have B3 := Lib.hid (B1.out.trans (hb.mono B1.out.size))
    rw [fault_not H2.out]
    clear hb K
    go_wp2
    go_ret2
    exact ⟨_, by rw [fault_not H2.out]; rfl, World.ownsRow_nil _ _ _ _, B3.out⟩
/-- Is it long enough? -/
def loB (n : Int) (x : Bz) : Bool := decide (n ≤ x.2 - x.1)
set_option maxRecDepth 100000 in
theorem lon_any (n : Int) (x : Bz) (b : Nat) (w : World) (h : Sm x) (hn : w.cell? ⟨b, 0, none⟩ = some (.int .i64 n)) :
    Calls Tryz.prog 84 #[agB x, .pointer (some ⟨b, 0, none⟩)] w fun e w' => e = .returned (.bool (loB n x)) ∧ Below w.heap.size w w' := by
  have N : Hid (loB n x = decide (n ≤ x.2 - x.1)) := Lib.hid rfl
  generalize loB n x = R at N ⊢
  have T3 := BBx.new w x 99
  have b3 := below_one w (.cells #[.int .i64 x.1, .int .i64 x.2] 99)
  obtain ⟨W3, hW3⟩ : ∃ W3, W3 = w.alloc (.cells #[.int .i64 x.1, .int .i64 x.2] 99) := ⟨_, rfl⟩
  rw [← hW3] at T3 b3
  have HW3 := Lib.hid hW3
  have B3 := Lib.hid b3
  obtain ⟨t0, t1⟩ := T3
  have tl := cell_in t0
  have n0 := (b3.cell (p := ⟨b, 0, none⟩) (cell_in hn)).trans hn
  have nl := cell_in n0
  have HS := Lib.hid h
  clear hW3 b3 h hn
  go_enter Tryz.func84, Tryz.ntmps84
  go_upto_region 1 with fail
  rw [← HW3.out]
  have r0 := cell_regrown t0
  have r1 := cell_regrown t1
  have r2 := cell_regrown n0
  refine wp_region_quiet_below (by kernel_rfl) (by kernel_rfl) ?_
  repeat (go_big_quiet_step (first | (go_at_call 85; exact Calls.regrown_of (minB_any x _ HS.out))))
  refine wpQuiet_nil ?_
  intro _ hw'
  obtain ⟨⟨dq, osq⟩, hw''⟩ := hw'
  subst hw''
  have B4 := Lib.hid (B3.out.trans ((below_regrown W3 dq osq).mono B3.out.size))
  clear r0 r1 r2 t0 t1 tl n0 nl
  go_wp2
  go_ret
  exact ⟨ret_bool N.out.symm, B4.out⟩
set_option maxRecDepth 100000 in
set_option maxHeartbeats 1000000 in
theorem idxS (n : Int) (l : List Bz) (b0 : Nat) (v : Value) (w : World) (hn : w.cell? ⟨b0, 0, none⟩ = some (.int .i64 n)) (hs : ∀ x ∈ l, Sm x) (hh : Rb w v l) (hl : l.length ≤ 1000000) :
    Calls Tryz.prog 83 #[v, .func (.func 84) #[] #[.pointer (some ⟨b0, 0, none⟩)]] w (IdxA l (loB n) w) := by
  have HH := Lib.hid hh
  have HC : Hid (∀ c ∈ l, ∀ W, Below w.heap.size w W → Calls Tryz.prog 84 #[agB c, .pointer (some ⟨b0, 0, none⟩)] W fun e w' => e = .returned (.bool (loB n c)) ∧ Below W.heap.size W w') := Lib.hid (fun c hc W q => lon_any n c b0 W (hs c hc) ((q.cell (p := ⟨b0, 0, none⟩) (cell_in hn)).trans hn))
  obtain ⟨a, cap, rfl, _⟩ := hh
  generalize loB n = p at HC ⊢
  clear hn hs
  have eg : ∀ args w, (callFunc 84 args).run Tryz.prog w = .ok (.enter 84 args) w := enters_of Tryz.func84 (by kernel_rfl) rfl
  go_enter Tryz.func83, Tryz.ntmps83
  go_wp2
  go_loopw [8] (fun i wr => ∃ k : Nat, k ≤ l.length ∧ i = .int .i64 k ∧ Hid ((l.take k).any p = false) ∧ Below w.heap.size w wr) (fun i _ => l.length - (intOf i).toNat)
  case atStart => exact ⟨0, Nat.zero_le _, rfl, Lib.hid rfl, Below.refl _ _⟩
  case round =>
    obtain ⟨k, hk, rfl, HF, hB⟩ := hrel
    have HB := Lib.hid hB
    by_cases hlt : k < l.length
    · obtain ⟨b, off, rfl, _, k1, k2⟩ := rb_at (HH.out.on hB) hlt
      have bl := cell_in k1
      have K := Lib.hid (HC.out (l.getD k (0, 0)) (by rw [List.getD_eq_getElem?_getD, List.getElem?_eq_getElem hlt]; exact List.getElem_mem _) wr hB)
      obtain ⟨X, hX⟩ : ∃ X, X = l.getD k (0, 0) := ⟨_, rfl⟩
      rw [← hX] at k1 k2 K
      have HX := Lib.hid hX
      clear hX hB
      go_wp2_with fail
      refine K.out.mono ?_
      rintro e w2 ⟨rfl, hb⟩
      have HB2 := Lib.hid (HB.out.trans (hb.mono HB.out.size))
      clear hb K k1 k2 bl
      rcases hp : p X with _ | _
      · have N1 := Lib.hid (any_tk p l k hlt HF.out (by rw [← HX.out]; exact hp))
        go_wp2
        go_roundw
        case rel => exact ⟨k + 1, by omega, by go_num, N1, HB2.out⟩
        case measure => simp [intOf]; omega
      · have N1 : Hid (p (l.getD k (0, 0)) = true) := Lib.hid (by rw [← HX.out]; exact hp)
        go_wp2
        go_ret
        exact ⟨HB2.out, Or.inr ⟨k, rfl, hlt, HF.out, N1.out⟩⟩
    · have N1 : Hid (l.any p = false) := Lib.hid (by have := HF.out; rwa [List.take_of_length_le (by omega)] at this)
      go_wp2
      go_ret
      exact ⟨HB.out, Or.inl ⟨rfl, N1.out⟩⟩
/-- What Slot tells: the first of those that are free that is long enough. -/
def slI (n : Int) : List Bz → Int
  | [] => 0
  | x :: r => if loB n x = true then x.1 else slI n r
def slE (n : Int) (m : List Bz) : Int := if n < 1 ∨ 1000000 < n then 1 else if m.any (loB n) = true then 0 else 5
def slT (n : Int) (m : List Bz) : Int := if n < 1 ∨ 1000000 < n then 0 else slI n m
theorem slI_none {n : Int} : ∀ {m : List Bz}, m.any (loB n) = false → slI n m = 0
  | [], _ => rfl
  | x :: r, h => by
    rw [List.any_cons, Bool.or_eq_false_iff] at h
    unfold slI
    rw [if_neg (by rw [h.1]; simp), slI_none h.2]
theorem slI_at {n : Int} : ∀ {m : List Bz} {k : Nat}, k < m.length → (m.take k).any (loB n) = false → loB n (m.getD k (0, 0)) = true → slI n m = (m.getD k (0, 0)).1
  | [], k, h, _, _ => by simp at h
  | x :: r, 0, _, _, hp => by
    unfold slI
    rw [if_pos (by simpa using hp)]
    rfl
  | x :: r, k + 1, h, ha, hp => by
    rw [List.take_succ_cons, List.any_cons, Bool.or_eq_false_iff] at ha
    unfold slI
    rw [if_neg (by rw [ha.1]; simp), slI_at (k := k) (by simpa using h) ha.2 (by simpa using hp)]
    simp
/-- The fault and the time of Slot; of SlotAmong. -/
def sloF (l : List Bz) (fr t n : Int) : Int := if frF l fr t = 0 then slE n (frL l fr t) else frF l fr t
def sloT (l : List Bz) (fr t n : Int) : Int := if frF l fr t = 0 then slT n (frL l fr t) else 0
def saF (l : List Bz) (fr t n : Int) : Int := if faF l fr t = 0 then slE n (faL l fr t) else faF l fr t
def saT (l : List Bz) (fr t n : Int) : Int := if faF l fr t = 0 then slT n (faL l fr t) else 0
theorem saF_few {l : List Bz} {fr t n : Int} (h : ¬ 200 < l.length) : saF l fr t n = sloF l fr t n := by unfold saF sloF; rw [faF_few h, faL_few h]
theorem saT_few {l : List Bz} {fr t n : Int} (h : ¬ 200 < l.length) : saT l fr t n = sloT l fr t n := by unfold saT sloT; rw [faF_few h, faL_few h]
theorem faL_gd (l : List Bz) (fr t : Int) : (∀ x ∈ faL l fr t, Gd x) ∧ (faL l fr t).length ≤ l.length + 1 := by
  unfold faL
  split
  · rename_i h
    unfold faF at h
    split at h
    · rename_i hz
      have gd := onF_zero.1 h
      have RT := gd_rt (reF_zero.1 hz)
      obtain ⟨i1, i2⟩ := fre_cn t (nrm l) fr (nrm_cn RT)
      refine ⟨fun x hx => ?_, ?_⟩
      · have a := ((i2 x.1).1 (i1.first hx)).1
        have b := ((i2 (x.2 - 1)).1 (i1.last hx)).1
        have c := i1.2 x hx
        have d : 1 ≤ fr ∧ fr ≤ t ∧ t ≤ 157785119 := gd
        exact ⟨by omega, by omega, by omega⟩
      · have := fre_len t (nrm l) fr
        have := nrm_len RT
        omega
    · omega
  · exact ⟨fun x hx => by simp at hx, by simp⟩
theorem frL_gd (l : List Bz) (fr t : Int) : (∀ x ∈ frL l fr t, Gd x) ∧ (frL l fr t).length ≤ 201 := by
  by_cases h : 200 < l.length
  · have e1 : frF l fr t = 4 := by unfold frF; rw [bzF_many h]; rfl
    have e2 : frL l fr t = [] := by unfold frL; rw [e1]; rfl
    rw [e2]
    exact ⟨fun x hx => by simp at hx, by simp⟩
  · have q := faL_gd l fr t
    rw [faL_few h] at q
    exact ⟨q.1, by have := q.2; omega⟩
set_option maxRecDepth 100000 in
set_option maxHeartbeats 2000000 in
theorem sla_any (hS : SrtH) (l : List Bz) (fr t n : Int) (v : Value) (w : World) (hv : Rb w v l) (hl : l.length ≤ 900) :
    Calls Tryz.prog 39 #[v, .int .i64 fr, .int .i64 t, .int .i64 n] w (TtA w (saT l fr t n) (saF l fr t n)) := by
  have b1 := below_one w (.cells #[.int .i64 n] 3)
  have c1 : (w.alloc (.cells #[.int .i64 n] 3)).cell? ⟨w.heap.size, 0, none⟩ = some (.int .i64 n) := by simp
  obtain ⟨W1, hW1⟩ : ∃ W1, W1 = w.alloc (.cells #[.int .i64 n] 3) := ⟨_, rfl⟩
  rw [← hW1] at b1 c1
  have z1 : w.heap.size < W1.heap.size := cell_in c1
  have HW1 := Lib.hid hW1
  have B1 := Lib.hid b1
  have C1 := Lib.hid c1
  have Z1 := Lib.hid z1
  have K := Lib.hid (fra_any hS l fr t v W1 (hv.on b1) hl)
  obtain ⟨gd, ln⟩ := faL_gd l fr t
  have GD := Lib.hid gd
  have eT : saT l fr t n = if faF l fr t = 0 then slT n (faL l fr t) else 0 := rfl
  have eF : saF l fr t n = if faF l fr t = 0 then slE n (faL l fr t) else faF l fr t := rfl
  rw [eT, eF]
  generalize faL l fr t = M at K GD ln ⊢
  generalize faF l fr t = F at K ⊢
  clear b1 c1 hW1 hv hS gd eT eF z1
  by_cases h : F = 0
  · subst h
    rw [if_pos rfl, if_pos rfl]
    by_cases h1 : n < 1 ∨ 1000000 < n
    · have EE : Hid (slE n M = 1 ∧ slT n M = 0) := Lib.hid ⟨if_pos h1, if_pos h1⟩
      generalize slE n M = E1 at EE ⊢
      generalize slT n M = T1 at EE ⊢
      by_cases h2 : n < 1
      all_goals
        try (have h3 : 1000000 < n := by omega)
        clear h1
        go_enter Tryz.func39, Tryz.ntmps39
        go_upto_region 1 with fail
        rw [← HW1.out]
        go_wp2_with fail
        refine K.out.mono ?_
        rintro e w3 ⟨u, rfl, ho, hb⟩
        have B3 := Lib.hid (B1.out.trans (hb.mono B1.out.size))
        have c3 := (hb.cell (p := ⟨w.heap.size, 0, none⟩) Z1.out).trans C1.out
        have z3 := cell_in c3
        rw [show fault 0 = .nilIface from rfl]
        clear ho hb K
        go_wp2
        go_ret2
        exact ⟨by rw [EE.out.1, EE.out.2]; rfl, B3.out⟩
    · have h2 : ¬ n < 1 := by omega
      have h3 : ¬ 1000000 < n := by omega
      have EE : Hid (slE n M = (if M.any (loB n) = true then 0 else 5) ∧ slT n M = slI n M) := Lib.hid ⟨if_neg h1, if_neg h1⟩
      generalize slE n M = E1 at EE ⊢
      generalize slT n M = T1 at EE ⊢
      clear h1
      go_enter Tryz.func39, Tryz.ntmps39
      go_upto_region 1 with fail
      rw [← HW1.out]
      go_wp2_with fail
      refine K.out.mono ?_
      rintro e w3 ⟨u, rfl, ho, hb⟩
      have B3 := Lib.hid (B1.out.trans (hb.mono B1.out.size))
      have O3 := Lib.hid ho
      have c3 := (hb.cell (p := ⟨w.heap.size, 0, none⟩) Z1.out).trans C1.out
      have z3 := cell_in c3
      obtain ⟨a, cap, ev, _⟩ := ho.rb
      subst ev
      rw [show fault 0 = .nilIface from rfl]
      have K2 := Lib.hid (idxS n M w.heap.size _ w3 c3 (fun x hx => gd_sm (GD.out x hx)) ho.rb (by omega))
      clear ho hb K
      go_wp2_with fail
      refine K2.out.mono ?_
      rintro e w4 ⟨hb, hx⟩
      have B4 := Lib.hid (B3.out.trans (hb.mono B3.out.size))
      have O4 : Hid (Ob w4 W1.heap.size (.slice a M.length cap) M) := Lib.hid (ow_below O3.out hb)
      clear hb K2 c3 z3 O3
      rcases hx with ⟨rfl, ha⟩ | ⟨k, rfl, hk, ha, hp⟩
      · have N : Hid (E1 = 5 ∧ T1 = 0) := Lib.hid ⟨by rw [EE.out.1, ha]; rfl, by rw [EE.out.2, slI_none ha]⟩
        clear ha
        go_wp2
        go_ret2
        exact ⟨by rw [N.out.1, N.out.2]; rfl, B4.out⟩
      · have N : Hid (E1 = 0 ∧ T1 = (M.getD k (0, 0)).1) := Lib.hid ⟨by
          rw [EE.out.1, if_pos (List.any_eq_true.2 ⟨_, by rw [List.getD_eq_getElem?_getD, List.getElem?_eq_getElem hk]; exact List.getElem_mem _, hp⟩)], by rw [EE.out.2, slI_at hk ha hp]⟩
        obtain ⟨b, off, rfl, _, d1, d2⟩ := rb_at O4.out.rb hk
        have dl := cell_in d1
        generalize M.getD k (0, 0) = X at N d1 d2
        have kn : ¬ (k : Int) < 0 := by omega
        clear ha hp
        go_wp2
        go_ret2
        exact ⟨by rw [N.out.1, N.out.2]; rfl, B4.out⟩
  · rw [if_neg h, if_neg h]
    have H2 := Lib.hid h
    clear h
    go_enter Tryz.func39, Tryz.ntmps39
    go_upto_region 1 with fail
    rw [← HW1.out]
    go_wp2_with fail
    refine K.out.mono ?_
    rintro e w3 ⟨u, rfl, ho, hb⟩
    have B3 := Lib.hid (B1.out.trans (hb.mono B1.out.size))
    rw [fault_not H2.out]
    clear ho hb K
    go_wp2
    go_ret2
    exact ⟨by rw [fault_not H2.out]; rfl, B3.out⟩
end Go.Proofs.YtoncfgfjdlgfcaaGreatDoor.Bz
