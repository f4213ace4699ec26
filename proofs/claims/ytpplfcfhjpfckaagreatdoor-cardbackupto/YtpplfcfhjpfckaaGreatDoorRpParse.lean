/-
  What is proved here: what package rule's Parse answers of any text that is not too long (a contract over the translation); tables and words are asked as premises.
-/
import Derived.Test.YtpplfcfhjpfckaaGreatDoorQX
import Derived.Test.YtpplfcfhjpfckaaGreatDoorQV
namespace Go.Proofs.YtpplfcfhjpfckaaGreatDoor
open Go.RowKit Cal Txt

/-- The fault of a text; 0: none. -/
def pe (l : List UInt8) : Int := match rr l with
  | none => 2
  | some r => rf r
theorem pe_none {l : List UInt8} (h : rr l = none) : pe l = 2 := by unfold pe; rw [h]
theorem pe_some {l : List UInt8} {r : Rl} (h : rr l = some r) : pe l = rf r := by unfold pe; rw [h]
theorem rr_rw (s : ByteArray) : rr s.data.toList = rw1 ((pcs 32 s).map (·.data.toList)) := by
  rw [pcs_cut]
  unfold rr rw1
  cases cutAt 32 s.data.toList <;> rfl
/-- What is answered of a text. -/
def ParseA (w : World) (l : List UInt8) (e : Ending) (w' : World) : Prop :=
  Below w.heap.size w w' ∧ ((¬ pe l = 0 ∧ e = .returned (.tuple #[.agg #[.int .i64 0, .int .i64 0, .int .i64 0, .int .i64 0, .slice none 0 0, .slice none 0 0, .slice none 0 0, .slice none 0 0], .iface 45 (.int .i64 (pe l))])) ∨ ∃ r v, rr l = some r ∧ rf r = 0 ∧ e = .returned (.tuple #[v, .nilIface]) ∧ RuleIn w' v r)
/-- The same, and that its lists lie behind what was. -/
def ParseF (w : World) (l : List UInt8) (e : Ending) (w' : World) : Prop :=
  Below w.heap.size w w' ∧ ((¬ pe l = 0 ∧ e = .returned (.tuple #[.agg #[.int .i64 0, .int .i64 0, .int .i64 0, .int .i64 0, .slice none 0 0, .slice none 0 0, .slice none 0 0, .slice none 0 0], .iface 45 (.int .i64 (pe l))])) ∨ ∃ r v, rr l = some r ∧ rf r = 0 ∧ e = .returned (.tuple #[v, .nilIface]) ∧ RuleFr w' w.heap.size v r)
theorem ret_err {k j : Int} (h : k = j) (v : Value) (t : TypeId) : Ending.returned (.tuple #[v, .iface t (.int .i64 k)]) = .returned (.tuple #[v, .iface t (.int .i64 j)]) := by rw [h]
set_option maxRecDepth 100000 in
set_option maxHeartbeats 4000000 in
theorem parse_far (s : ByteArray) (w : World) (hK : KeepP w) (hs : s.size ≤ 2000000) :
    Calls Tryz.prog 71 #[.string s] w (ParseF w s.data.toList) := by
  have B0 : Below w.heap.size w (w.alloc (.cells #[.int .i64 0, .int .i64 0, .int .i64 0, .int .i64 0, .slice none 0 0, .slice none 0 0, .slice none 0 0, .slice none 0 0] 25)) := (Below.refl _ _).alloc (Nat.le_refl _) _
  have B1 : Below w.heap.size w ((w.alloc (.cells #[.int .i64 0, .int .i64 0, .int .i64 0, .int .i64 0, .slice none 0 0, .slice none 0 0, .slice none 0 0, .slice none 0 0] 25)).alloc (.cells ((pcs 32 s).map Value.string).toArray 9)) := B0.alloc B0.size _
  have T1 := Lib.hid (there_on (there_new w 25) ((Below.refl _ _).alloc (Nat.le_refl _) (.cells ((pcs 32 s).map Value.string).toArray 9)) (by simp))
  have PL : (pcs 32 s).length ≤ 2000001 ∧ 0 < (pcs 32 s).length := by
    rw [pcs_len]
    have := List.count_le_length (a := (32 : UInt8)) (l := s.data.toList)
    have e : s.data.toList.length = s.size := rfl
    omega
  have KW := Lib.hid (parseWords_any (pcs 32 s) (w.heap.size + 1) ((w.alloc (.cells #[.int .i64 0, .int .i64 0, .int .i64 0, .int .i64 0, .slice none 0 0, .slice none 0 0, .slice none 0 0, .slice none 0 0] 25)).alloc (.cells ((pcs 32 s).map Value.string).toArray 9))
    (fun j h => by have e : (w.alloc (.cells #[.int .i64 0, .int .i64 0, .int .i64 0, .int .i64 0, .slice none 0 0, .slice none 0 0, .slice none 0 0, .slice none 0 0] 25)).heap.size = w.heap.size + 1 := by simp
                   rw [← e]; simp [h]) PL.2 PL.1 (fun x hx => by have := pcs_size 32 s x hx; omega) (hK.below B1))
  rw [← rr_rw] at KW
  have sz : ((w.alloc (.cells #[.int .i64 0, .int .i64 0, .int .i64 0, .int .i64 0, .slice none 0 0, .slice none 0 0, .slice none 0 0, .slice none 0 0] 25)).alloc (.cells ((pcs 32 s).map Value.string).toArray 9)).heap.size = w.heap.size + 2 := by simp
  have HB1 := Lib.hid B1
  clear B0 B1 hK PL
  go_enter Tryz.func71, Tryz.ntmps71
  go_wp2_with fail
  refine (split_one s 32 _ (by omega)).mono ?_
  rintro e w1 ⟨rfl, hw⟩
  subst hw
  go_wp2_with fail
  generalize ((w.alloc (.cells #[.int .i64 0, .int .i64 0, .int .i64 0, .int .i64 0, .slice none 0 0, .slice none 0 0, .slice none 0 0, .slice none 0 0] 25)).alloc (.cells ((pcs 32 s).map Value.string).toArray 9)) = W1 at T1 KW sz HB1 ⊢
  refine KW.out.mono ?_
  rintro e w2 ⟨hb2, hv⟩
  have T3 := there_on T1.out hb2 (by rw [sz]; omega)
  have BW := HB1.out.trans (hb2.mono HB1.out.size)
  rw [sz] at hv
  clear T1 KW HB1 sz hb2
  rcases hv with ⟨ho, r, v, rfl, hv⟩ | ⟨r, v, ho, rfl, hv⟩
  · have N1 := Lib.hid (pe_none ho)
    obtain ⟨vm, vd, vw, vp, rfl, ⟨m1, m2⟩, ⟨d1, d2⟩, ⟨k1, k2⟩, p1, p2⟩ := hv
    obtain ⟨am, cm, rfl, _⟩ := id m1
    obtain ⟨ad, cd, rfl, _⟩ := id d1
    obtain ⟨aw, cw, rfl, _⟩ := id k1
    obtain ⟨ap, cp, rfl, _⟩ := id p1
    clear m1 m2 d1 d2 k1 k2 p1 p2 ho
    have T4 := there_on T3 ((Below.refl _ _).alloc (Nat.le_refl _) (.cells #[.int .i64 r.freq, .int .i64 r.every, .int .i64 r.count, .int .i64 r.till, .slice am r.months.length cm, .slice ad r.days.length cd, .slice aw r.weeks.length cw, .slice ap r.pick.length cp] 25)) (by have := (T3 0 (by decide)).1; rcases Nat.lt_or_ge w.heap.size w2.heap.size with g | g; exact g; simp [World.cell?, Array.getElem?_eq_none g] at this)
    have BW4 := BW.alloc BW.size (.cells #[.int .i64 r.freq, .int .i64 r.every, .int .i64 r.count, .int .i64 r.till, .slice am r.months.length cm, .slice ad r.days.length cd, .slice aw r.weeks.length cw, .slice ap r.pick.length cp] 25)
    go_wp2_with (refine wpList_store_keep rfl 25 (.tmp 2) (.tmp 15) rfl w.heap.size #[.int .i64 0, .int .i64 0, .int .i64 0, .int .i64 0, .slice none 0 0, .slice none 0 0, .slice none 0 0, .slice none 0 0] rfl rfl T4 (by kernel_rfl) (by simp [Value.oneCell']) BW4 (Nat.le_refl _) ?_)
    intro W4 R4 B4 _
    have r0 := R4 0 _ rfl
    have r1 := R4 1 _ rfl
    have r2 := R4 2 _ rfl
    have r3 := R4 3 _ rfl
    have r4 := R4 4 _ rfl
    have r5 := R4 5 _ rfl
    have r6 := R4 6 _ rfl
    have r7 := R4 7 _ rfl
    simp only [Nat.zero_add] at r0 r1 r2 r3 r4 r5 r6 r7
    clear R4
    go_wp2
    refine bodyPost_ret (v := .tuple #[.agg #[.int .i64 0, .int .i64 0, .int .i64 0, .int .i64 0, .slice none 0 0, .slice none 0 0, .slice none 0 0, .slice none 0 0], .iface 45 (.int .i64 2)]) (by simp [results, Tryz.results71, go_sem, r0, r1, r2, r3, r4, r5, r6, r7]) rfl ⟨B4, Or.inl ⟨by rw [N1.out]; decide, ret_err N1.out.symm _ _⟩⟩
  · have HO := Lib.hid ho
    obtain ⟨vm, vd, vw, vp, rfl, ⟨m1, m2⟩, ⟨d1, d2⟩, ⟨k1, k2⟩, p1, p2⟩ := hv
    obtain ⟨am, cm, rfl, _⟩ := id m1
    obtain ⟨ad, cd, rfl, _⟩ := id d1
    obtain ⟨aw, cw, rfl, _⟩ := id k1
    obtain ⟨ap, cp, rfl, _⟩ := id p1
    have A0 : Below w2.heap.size w2 (w2.alloc (.cells #[.int .i64 r.freq, .int .i64 r.every, .int .i64 r.count, .int .i64 r.till, .slice am r.months.length cm, .slice ad r.days.length cd, .slice aw r.weeks.length cw, .slice ap r.pick.length cp] 25)) := (Below.refl _ _).alloc (Nat.le_refl _) _
    have wl : w.heap.size < w2.heap.size := by have := (T3 0 (by decide)).1; rcases Nat.lt_or_ge w.heap.size w2.heap.size with g | g; exact g; simp [World.cell?, Array.getElem?_eq_none g] at this
    have T4 := there_on T3 A0 wl
    have BW4 := BW.alloc BW.size (.cells #[.int .i64 r.freq, .int .i64 r.every, .int .i64 r.count, .int .i64 r.till, .slice am r.months.length cm, .slice ad r.days.length cd, .slice aw r.weeks.length cw, .slice ap r.pick.length cp] 25)
    have KC := Lib.hid (check_walk r am ad aw ap cm cd cw cp (w2.alloc (.cells #[.int .i64 r.freq, .int .i64 r.every, .int .i64 r.count, .int .i64 r.till, .slice am r.months.length cm, .slice ad r.days.length cd, .slice aw r.weeks.length cw, .slice ap r.pick.length cp] 25)) (m1.on A0) (d1.on A0) (k1.on A0) (p1.on A0))
    have HR := Lib.hid (RBox.new w2 r.freq r.every r.count r.till (.slice am r.months.length cm) (.slice ad r.days.length cd) (.slice aw r.weeks.length cw) (.slice ap r.pick.length cp) 25)
    have KI := Lib.hid (And.intro (And.intro (m1.on A0) m2) (And.intro (And.intro (d1.on A0) d2) (And.intro (And.intro (k1.on A0) k2) (And.intro (p1.on A0) p2))))
    clear m1 m2 d1 d2 k1 k2 p1 p2 ho A0 T3 BW
    have s1 : w.heap.size < (w2.alloc (.cells #[.int .i64 r.freq, .int .i64 r.every, .int .i64 r.count, .int .i64 r.till, .slice am r.months.length cm, .slice ad r.days.length cd, .slice aw r.weeks.length cw, .slice ap r.pick.length cp] 25)).heap.size := by simp; omega
    go_wp2_with fail
    generalize w2.alloc (.cells #[.int .i64 r.freq, .int .i64 r.every, .int .i64 r.count, .int .i64 r.till, .slice am r.months.length cm, .slice ad r.days.length cd, .slice aw r.weeks.length cw, .slice ap r.pick.length cp] 25) = W2 at T4 BW4 KC HR KI s1 ⊢
    refine KC.out.mono ?_
    rintro e w3 ⟨rfl, hb3⟩
    have T5 := there_on T4 hb3 s1
    have BW5 := BW4.trans (hb3.mono BW4.size)
    by_cases hz : rf r = 0
    · rw [fault_zero hz]
      have KJ : Hid (∀ W4 : World, (∀ g o, w.heap.size < g → W4.cell? ⟨g, o, none⟩ = w3.cell? ⟨g, o, none⟩) → RuleFr W4 w.heap.size (.agg #[.int .i64 r.freq, .int .i64 r.every, .int .i64 r.count, .int .i64 r.till, .slice am r.months.length cm, .slice ad r.days.length cd, .slice aw r.weeks.length cw, .slice ap r.pick.length cp]) r) := Lib.hid (fun W4 q => by
        obtain ⟨⟨m1, m2⟩, ⟨d1, d2⟩, ⟨k1, k2⟩, p1, p2⟩ := KI.out
        have q' : ∀ g o, w.heap.size + 2 < g → W4.cell? ⟨g, o, none⟩ = w3.cell? ⟨g, o, none⟩ := fun g o h => q g o (by omega)
        exact ⟨_, _, _, _, rfl, ⟨(m1.on hb3).keep m2 q', m2.le (by omega)⟩, ⟨(d1.on hb3).keep d2 q', d2.le (by omega)⟩, ⟨(k1.on hb3).keep k2 q', k2.le (by omega)⟩, (p1.on hb3).keep p2 q', p2.le (by omega)⟩)
      obtain ⟨x0, x1, x2, x3, x4, x5, x6, x7⟩ := HR.out.on hb3
      have HZ := Lib.hid hz
      clear hz KI KC HR T4 BW4 hb3 s1
      go_wp2_with (refine wpList_store_keep rfl 25 (.tmp 2) (.tmp 23) rfl w.heap.size #[.int .i64 r.freq, .int .i64 r.every, .int .i64 r.count, .int .i64 r.till, .slice am r.months.length cm, .slice ad r.days.length cd, .slice aw r.weeks.length cw, .slice ap r.pick.length cp] rfl rfl T5 (by kernel_rfl) (by simp [Value.oneCell']) BW5 (Nat.le_refl _) ?_)
      intro W4 R4 B4 Q4
      have RI := Lib.hid (KJ.out W4 Q4)
      have r0 := R4 0 _ rfl
      have r1 := R4 1 _ rfl
      have r2 := R4 2 _ rfl
      have r3 := R4 3 _ rfl
      have r4 := R4 4 _ rfl
      have r5 := R4 5 _ rfl
      have r6 := R4 6 _ rfl
      have r7 := R4 7 _ rfl
      simp only [Nat.zero_add] at r0 r1 r2 r3 r4 r5 r6 r7
      clear R4 Q4
      go_wp2
      refine bodyPost_ret (v := .tuple #[.agg #[.int .i64 r.freq, .int .i64 r.every, .int .i64 r.count, .int .i64 r.till, .slice am r.months.length cm, .slice ad r.days.length cd, .slice aw r.weeks.length cw, .slice ap r.pick.length cp], .nilIface]) (by simp [results, Tryz.results71, go_sem, r0, r1, r2, r3, r4, r5, r6, r7]) rfl ⟨B4, Or.inr ⟨_, _, HO.out, HZ.out, rfl, RI.out⟩⟩
    · rw [fault_some hz]
      have N1 := Lib.hid (pe_some HO.out)
      have HZ := Lib.hid hz
      clear hz KI KC HR T4 BW4 hb3 s1
      go_wp2_with (refine wpList_store_keep rfl 25 (.tmp 2) (.tmp 21) rfl w.heap.size #[.int .i64 0, .int .i64 0, .int .i64 0, .int .i64 0, .slice none 0 0, .slice none 0 0, .slice none 0 0, .slice none 0 0] rfl rfl T5 (by kernel_rfl) (by simp [Value.oneCell']) BW5 (Nat.le_refl _) ?_)
      intro W4 R4 B4 _
      have r0 := R4 0 _ rfl
      have r1 := R4 1 _ rfl
      have r2 := R4 2 _ rfl
      have r3 := R4 3 _ rfl
      have r4 := R4 4 _ rfl
      have r5 := R4 5 _ rfl
      have r6 := R4 6 _ rfl
      have r7 := R4 7 _ rfl
      simp only [Nat.zero_add] at r0 r1 r2 r3 r4 r5 r6 r7
      clear R4
      go_wp2
      refine bodyPost_ret (v := .tuple #[.agg #[.int .i64 0, .int .i64 0, .int .i64 0, .int .i64 0, .slice none 0 0, .slice none 0 0, .slice none 0 0, .slice none 0 0], .iface 45 (.int .i64 (rf r))]) (by simp [results, Tryz.results71, go_sem, r0, r1, r2, r3, r4, r5, r6, r7]) rfl ⟨B4, Or.inl ⟨by rw [N1.out]; exact HZ.out, ret_err N1.out.symm _ _⟩⟩
theorem parse_any (s : ByteArray) (w : World) (hK : KeepP w) (hs : s.size ≤ 2000000) :
    Calls Tryz.prog 71 #[.string s] w (ParseA w s.data.toList) := by
  refine (parse_far s w hK hs).mono ?_
  rintro e w' ⟨hb, h | ⟨r, v, h1, h2, h3, vm, vd, vw, vp, h4, m, d, k, p⟩⟩
  · exact ⟨hb, Or.inl h⟩
  · exact ⟨hb, Or.inr ⟨r, v, h1, h2, h3, vm, vd, vw, vp, h4, m.1, d.1, k.1, p.1⟩⟩
end Go.Proofs.YtpplfcfhjpfckaaGreatDoor
