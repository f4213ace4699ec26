/-
  What is proved here: what package rule's Print answers of any rule (contracts over the translation); the tables and words are asked as premises.
-/
import Derived.Test.YtoafdacgekmomabGreatDoorRlText
namespace Go.Proofs.YtoafdacgekmomabGreatDoor
open Go.RowKit Cal Txt

theorem fault_zero {k : Int} (h : k = 0) : fault k = .nilIface := if_pos h
theorem fault_some {k : Int} (h : ¬ k = 0) : fault k = .iface 44 (.int .i64 k) := if_neg h
theorem join_len' (xs : List (List UInt8)) (k n : Nat) (h : ∀ x ∈ xs, x.length ≤ k) (hn : xs.length ≤ n) : (joinBy 44 xs).length ≤ n * (k + 1) :=
  Nat.le_trans (join_len 44 k xs h) (Nat.mul_le_mul_right _ hn)
/-- Of a rule with nothing wrong each part is short. -/
theorem pt_len {r : Rl} (h1 : ok1 r = true) (h2 : ok2 r = true) (h3 : itemsB r = true) (k : Nat) : (pt r k).length ≤ 5000 := by
  obtain ⟨l1, l2, l3, l4⟩ := ok2_yes h2
  obtain ⟨⟨⟨g1, g2⟩, g3⟩, g4⟩ : ((r.months.all monP = true ∧ r.days.all plaP = true) ∧ r.weeks.all wkP = true) ∧ r.pick.all plaP = true := by simpa [itemsB] using h3
  obtain ⟨⟨a1, a2⟩, ⟨b1, b2⟩, ⟨c1, c2⟩, d1, d2'⟩ := of_decide_eq_true h1
  have u1 : ∀ n u : Int, -999999999 ≤ n → n ≤ 999999999 → (unt n u).length ≤ 10 := fun n u h0 h1 => by
    unfold unt; split
    · simp
    · exact nt_len n h0 h1
  have u2 : (dayt r.till).length ≤ 10 := by
    unfold dayt; split
    · simp
    · unfold dt; rw [dt3_len]; omega
  have v1 : ∀ (l : List Int), (∀ x ∈ l, -999999999 ≤ x ∧ x ≤ 999999999) → l.length ≤ 40 → (lt nt l).length ≤ 5000 := fun l h hl => by
    have := join_len' (l.map nt) 30 40 (fun x hx => by obtain ⟨y, hy, rfl⟩ := List.mem_map.1 hx; have := h y hy; have := nt_len y (by omega) (by omega); omega) (by rw [List.length_map]; exact hl)
    unfold lt; omega
  have v2 : (lt wt r.weeks).length ≤ 5000 := by
    have := join_len' (r.weeks.map wt) 30 40 (fun x hx => by obtain ⟨y, hy, rfl⟩ := List.mem_map.1 hx; have := of_decide_eq_true (List.all_eq_true.1 g3 y hy); exact wt_len y this.1 this.2.1 (by omega) (by omega)) (by rw [List.length_map]; omega)
    unfold lt; omega
  unfold pt
  split
  · have := u1 r.every 1 (by omega) (by omega); omega
  split
  · have := u1 r.count 0 (by omega) (by omega); omega
  split
  · omega
  split
  · exact v1 _ (fun x hx => by have := of_decide_eq_true (List.all_eq_true.1 g1 x hx); omega) (by omega)
  split
  · exact v1 _ (fun x hx => by have := of_decide_eq_true (List.all_eq_true.1 g2 x hx); omega) (by omega)
  split
  · exact v2
  · exact v1 _ (fun x hx => by have := of_decide_eq_true (List.all_eq_true.1 g4 x hx); omega) (by omega)
theorem kw_len (k : Nat) : (kw k).length ≤ 6 := by
  unfold kw
  repeat (split; decide)
  decide
theorem fq_len (k : Int) : (fq k).length ≤ 7 := by
  unfold fq
  repeat (split; decide)
  decide
theorem tk_len {r : Rl} (h1 : ok1 r = true) (h2 : ok2 r = true) (h3 : itemsB r = true) : ∀ k, (tk r k).length ≤ 7 + k * 5010
  | 0 => by show (fq r.freq).length ≤ _; have := fq_len r.freq; omega
  | k + 1 => by
    have ih := tk_len h1 h2 h3 k
    generalize hz : 7 + (k + 1) * 5010 = z
    have a := pt_len h1 h2 h3 k
    have b := kw_len k
    show (tk r k ++ _).length ≤ _
    rw [List.length_append]
    split
    · rw [List.length_nil]; omega
    · rw [List.length_append, List.length_cons, List.length_cons]; omega
theorem tk_next {r : Rl} {k : Nat} (h : ¬ pt r k = []) : tb (tk r k) ++ ((⟨#[32]⟩ : ByteArray) ++ tb (kw k) ++ ⟨#[32]⟩ ++ tb (pt r k)) = tb (tk r (k + 1)) := by
  show _ = tb (tk r k ++ _)
  rw [if_neg h, show (⟨#[32]⟩ : ByteArray) = tb [32] from rfl, ← tb_app, ← tb_app, ← tb_app, ← tb_app]
  simp
theorem tk_same {r : Rl} {k : Nat} (h : pt r k = []) : tk r (k + 1) = tk r k := by
  show tk r k ++ _ = _
  rw [if_pos h, List.append_nil]
theorem rf_good {r : Rl} (h : rf r = 0) : ok1 r = true ∧ ¬ (¬ r.count = 0 ∧ ¬ r.till = 0) ∧ ok2 r = true ∧ itemsB r = true ∧ ok4 r = true ∧ oddB r = false := by
  rcases e1 : ok1 r with _ | _
  · rw [rf_1 e1] at h; cases h
  by_cases e2 : ¬ r.count = 0 ∧ ¬ r.till = 0
  · rw [rf_3 e1 e2] at h; cases h
  rcases e3 : ok2 r with _ | _
  · rw [rf_4 e1 e2 e3] at h; cases h
  rcases e4 : itemsB r with _ | _
  · rw [rf_5 e1 e2 e3 e4] at h; cases h
  rcases e5 : ok4 r with _ | _
  · rw [rf_7 e1 e2 e3 e4 e5] at h; cases h
  rcases e6 : oddB r with _ | _
  · exact ⟨rfl, e2, rfl, rfl, rfl, rfl⟩
  · rw [rf_8 e1 e2 e3 e4 e5 e6] at h; cases h
set_option maxRecDepth 100000 in
set_option maxHeartbeats 4000000 in
theorem print_bad (r : Rl) (am ad aw ap : Option Addr) (cm cd cw cp : Nat) (w : World) (hm : Ints w (.slice am r.months.length cm) r.months) (hd : Ints w (.slice ad r.days.length cd) r.days) (hw : Nths w (.slice aw r.weeks.length cw) r.weeks) (hp : Ints w (.slice ap r.pick.length cp) r.pick) (h : ¬ rf r = 0) :
    Calls Tryz.prog 9 #[.agg #[.int .i64 r.freq, .int .i64 r.every, .int .i64 r.count, .int .i64 r.till, .slice am r.months.length cm, .slice ad r.days.length cd, .slice aw r.weeks.length cw, .slice ap r.pick.length cp]] w fun e w' => e = .returned (.tuple #[.string ⟨#[]⟩, .iface 44 (.int .i64 (rf r))]) ∧ Below w.heap.size w w' := by
  have B0 : Below w.heap.size w (w.alloc (.cells #[.int .i64 r.freq, .int .i64 r.every, .int .i64 r.count, .int .i64 r.till, .slice am r.months.length cm, .slice ad r.days.length cd, .slice aw r.weeks.length cw, .slice ap r.pick.length cp] 25)) := (Below.refl _ _).alloc (Nat.le_refl _) _
  have HB := Lib.hid B0
  have HC := Lib.hid (check_walk r am ad aw ap cm cd cw cp _ (hm.on B0) (hd.on B0) (hw.on B0) (hp.on B0))
  have HF := Lib.hid (fault_some h)
  clear B0 hm hd hw hp h
  go_enter Tryz.func9, Tryz.ntmps9
  go_wp2_with fail
  refine HC.out.mono ?_
  rintro e w1 ⟨rfl, hx⟩
  have HB1 := Lib.hid (HB.out.trans (hx.mono HB.out.size))
  rw [HF.out]
  clear hx HB HC HF
  go_wp2
  go_ret2
  exact ⟨rfl, HB1.out⟩
set_option maxRecDepth 100000 in
set_option maxHeartbeats 4000000 in
theorem print_good (r : Rl) (am ad aw ap : Option Addr) (cm cd cw cp : Nat) (w : World) (hm : Ints w (.slice am r.months.length cm) r.months) (hd : Ints w (.slice ad r.days.length cd) r.days) (hw : Nths w (.slice aw r.weeks.length cw) r.weeks) (hp : Ints w (.slice ap r.pick.length cp) r.pick) (h : rf r = 0)
    (hT : Tab w) (hP : Pow w) (hF : FrW w) (hA : PaW w) (hW : WdW w) :
    Calls Tryz.prog 9 #[.agg #[.int .i64 r.freq, .int .i64 r.every, .int .i64 r.count, .int .i64 r.till, .slice am r.months.length cm, .slice ad r.days.length cd, .slice aw r.weeks.length cw, .slice ap r.pick.length cp]] w fun e w' => e = .returned (.tuple #[.string (tb (rt r)), .nilIface]) ∧ Below w.heap.size w w' := by
  obtain ⟨o1, o2, o3, o4, o5, o6⟩ := rf_good h
  have hwk : wkB r.weeks = true := by rw [itemsB_eq] at o4; simp at o4; exact o4.2
  have TK := Lib.hid (tk_rt r hwk)
  have TL := Lib.hid (tk_len o1 o3 o4)
  have PL := Lib.hid (pt_len o1 o3 o4)
  obtain ⟨⟨a1, a2⟩, ⟨b1, b2⟩, ⟨c1, c2⟩, d1, d2'⟩ := of_decide_eq_true o1
  have B0 : Below w.heap.size w (w.alloc (.cells #[.int .i64 r.freq, .int .i64 r.every, .int .i64 r.count, .int .i64 r.till, .slice am r.months.length cm, .slice ad r.days.length cd, .slice aw r.weeks.length cw, .slice ap r.pick.length cp] 25)) := (Below.refl _ _).alloc (Nat.le_refl _) _
  have HB := Lib.hid B0
  have HR := Lib.hid (RBox.new w r.freq r.every r.count r.till (.slice am r.months.length cm) (.slice ad r.days.length cd) (.slice aw r.weeks.length cw) (.slice ap r.pick.length cp) 25)
  have HC := Lib.hid (check_walk r am ad aw ap cm cd cw cp _ (hm.on B0) (hd.on B0) (hw.on B0) (hp.on B0))
  have HF := Lib.hid (fault_zero h)
  have KD : Hid (∀ W, Below w.heap.size w W → Calls Tryz.prog 25 #[.int .i64 r.till] W fun e w' => e = .returned (.tuple #[.string (tb (dayt r.till)), .nilIface]) ∧ Below W.heap.size W w') := Lib.hid (fun W hb => printDay_any r.till W (hT.below hb) (hP.below hb) d1 d2')
  have KP : Hid (∀ W, Below w.heap.size w W → Calls Tryz.prog 26 #[.agg #[.int .i64 r.freq, .int .i64 r.every, .int .i64 r.count, .int .i64 r.till, .slice am r.months.length cm, .slice ad r.days.length cd, .slice aw r.weeks.length cw, .slice ap r.pick.length cp], .string (tb (dayt r.till))] W fun e w' => e = .returned (.agg #[.string (tb (unt r.every 1)), .string (tb (unt r.count 0)), .string (tb (dayt r.till)), .string (tb (lt nt r.months)), .string (tb (lt nt r.days)), .string (tb (lt wt r.weeks)), .string (tb (lt nt r.pick))]) ∧ Below W.heap.size W w') := Lib.hid (fun W hb => printParts_walk r am ad aw ap cm cd cw cp (dayt r.till) W (hm.on hb) (hd.on hb) (hw.on hb) (hp.on hb) (hP.below hb) (hW.below hb) o1 o3 o4)
  have HFr : Hid (∀ W, Below w.heap.size w W → W.cell? ⟨0, r.freq.toNat - 1, none⟩ = some (.string (tb (fq r.freq)))) := Lib.hid (fun W hb => by
    have := (hF.below hb) (r.freq.toNat - 1) (by omega)
    rwa [show ((r.freq.toNat - 1 : Nat) : Int) + 1 = r.freq by omega] at this)
  have HPa : Hid (∀ W, Below w.heap.size w W → ∀ k, k < 7 → W.cell? ⟨1, k, none⟩ = some (.string (tb (kw k)))) := Lib.hid (fun W hb => hA.below hb)
  clear B0 hm hd hw hp h hT hP hF hA hW o1 o2 o3 o4 o5 o6 hwk b1 b2 c1 c2 d1 d2'
  go_enter Tryz.func9, Tryz.ntmps9
  go_wp2_with fail
  refine HC.out.mono ?_
  rintro e w1 ⟨rfl, hx⟩
  have HB1 := Lib.hid (HB.out.trans (hx.mono HB.out.size))
  have HR1 := Lib.hid (HR.out.on hx)
  rw [HF.out]
  clear hx HB HC HF HR
  obtain ⟨R0, R1, R2, R3, R4, R5, R6, R7⟩ := id HR1.out
  go_wp2_with fail
  clear R0 R1 R2 R3 R4 R5 R6 R7
  refine (KD.out _ HB1.out).mono ?_
  rintro e w2 ⟨rfl, hx⟩
  have HB2 := Lib.hid (HB1.out.trans (hx.mono HB1.out.size))
  have HR2 := Lib.hid (HR1.out.on hx)
  clear hx HB1 HR1 KD
  obtain ⟨R0, R1, R2, R3, R4, R5, R6, R7⟩ := id HR2.out
  have fr := HFr.out _ HB2.out
  have i1 : (0 : Int) ≤ r.freq - 1 := by omega
  have i2 : r.freq - 1 < 4 := by omega
  go_wp2_with fail
  clear R0 R1 R2 R3 R4 R5 R6 R7 fr i1 i2
  refine (KP.out _ HB2.out).mono ?_
  rintro e w3 ⟨rfl, hx⟩
  have HB3 := Lib.hid (HB2.out.trans (hx.mono HB2.out.size))
  clear hx HB2 HR2 KP
  go_wp2
  go_loop [7, 8, 9, 32] (fun s _ _ i => ∃ k : Nat, k ≤ 7 ∧ i = .int .i64 k ∧ s = .string (tb (tk r k))) (fun _ _ _ i => 7 - (intOf i).toNat)
  case atStart => exact ⟨0, by omega, rfl, rfl⟩
  case round =>
    obtain ⟨k, hk, rfl, rfl⟩ := hrel
    by_cases hlt : k < 7
    · have ix := idx7 r k hlt
      have pc := HPa.out _ HB3.out k hlt
      have k7 : (k : Int) < 7 := by omega
      by_cases hp : pt r k = []
      · have e1 : (tb (pt r k)).toList.isEmpty = true := by rw [Lib.toList_data, tb_data, hp]; rfl
        have N1 := Lib.hid (tk_same hp)
        clear hp
        go_wp2
        go_round
        case rel => exact ⟨k + 1, by omega, by go_num, by rw [N1.out]⟩
        case measure => simp [intOf]; omega
      · have e1 : (tb (pt r k)).toList.isEmpty = false := by rw [Lib.toList_data, tb_data]; simpa using hp
        have N1 := Lib.hid (tk_next hp)
        have s1 : (tb (kw k)).size ≤ 6 := by rw [tb_size]; exact kw_len k
        have s2 : (tb (pt r k)).size ≤ 5000 := by rw [tb_size]; exact PL.out k
        have s3 : (tb (tk r k)).size ≤ 40000 := by rw [tb_size]; have := TL.out k; omega
        have f1 : ¬ 9223372036854775807 < 1 + (tb (kw k)).size := by omega
        have f2 : ¬ 9223372036854775807 < 1 + (tb (kw k)).size + 1 := by omega
        have f3 : ¬ 9223372036854775807 < 1 + (tb (kw k)).size + 1 + (tb (pt r k)).size := by omega
        have f4 : ¬ 9223372036854775807 < (tb (tk r k)).size + (1 + (tb (kw k)).size + 1 + (tb (pt r k)).size) := by omega
        clear hp s1 s2 s3
        go_wp2
        go_round
        case rel => exact ⟨k + 1, by omega, by go_num, by rw [← N1.out]⟩
        case measure => simp [intOf]; omega
    · obtain rfl : k = 7 := by omega
      go_wp2
      go_ret2
      exact ⟨ret_strNil2 (by rw [TK.out]), HB3.out⟩
/-- Print, of any rule in memory. -/
theorem rprint_any (r : Rl) (v : Value) (w : World) (hv : RuleIn w v r) (hT : Tab w) (hP : Pow w) (hF : FrW w) (hA : PaW w) (hW : WdW w) :
    Calls Tryz.prog 9 #[v] w fun e w' => e = .returned (.tuple #[.string (tb (if rf r = 0 then rt r else [])), fault (rf r)]) ∧ Below w.heap.size w w' := by
  obtain ⟨vm, vd, vw, vp, rfl, hm, hd, hw, hp⟩ := hv
  obtain ⟨am, cm, rfl, x1⟩ := id hm
  obtain ⟨ad, cd, rfl, x2⟩ := id hd
  obtain ⟨aw, cw, rfl, x3⟩ := id hw
  obtain ⟨ap, cp, rfl, x4⟩ := id hp
  by_cases h : rf r = 0
  · rw [if_pos h, fault_zero h]
    exact print_good r am ad aw ap cm cd cw cp w hm hd hw hp h hT hP hF hA hW
  · rw [if_neg h, fault_some h]
    exact print_bad r am ad aw ap cm cd cw cp w hm hd hw hp h
end Go.Proofs.YtoafdacgekmomabGreatDoor
