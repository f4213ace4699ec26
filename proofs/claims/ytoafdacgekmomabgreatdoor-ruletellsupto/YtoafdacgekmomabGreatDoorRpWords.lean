/-
  What is proved here: what package rule's parseWords answers (a contract over the translation).
-/
import Derived.Test.YtoafdacgekmomabGreatDoorRpPart
import Derived.Deep.RegionHeld3
namespace Go.Proofs.YtoafdacgekmomabGreatDoor
open Go.RowKit Cal Txt

theorem idxP (k : Nat) (h : k < 7) (W : World) : (Instr.index 57 (.agg #[.string (tb (kw 0)), .string (tb (kw 1)), .string (tb (kw 2)), .string (tb (kw 3)), .string (tb (kw 4)), .string (tb (kw 5)), .string (tb (kw 6))]) (.int .i64 k)).run Tryz.prog W = .ok (.string (tb (kw k))) W := by
  rcases seven h with rfl | rfl | rfl | rfl | rfl | rfl | rfl <;> kernel_rfl
/-- A rule's value, its lists behind a block. -/
def RuleFr (w : World) (n : Nat) (v : Value) (r : Rl) : Prop :=
  ∃ vm vd vw vp, v = .agg #[.int .i64 r.freq, .int .i64 r.every, .int .i64 r.count, .int .i64 r.till, vm, vd, vw, vp] ∧ (Ints w vm r.months ∧ Far n vm) ∧ (Ints w vd r.days ∧ Far n vd) ∧ (Nths w vw r.weeks ∧ Far n vw) ∧ (Ints w vp r.pick ∧ Far n vp)
theorem Far.le {n m : Nat} {v : Value} (h : Far m v) (hn : n ≤ m) : Far n v := fun a k c e => Nat.lt_of_le_of_lt hn (h a k c e)
/-- What was read of words, and what is answered. -/
def WordsA (w : World) (o : Option Rl) (e : Ending) (w' : World) : Prop :=
  Below w.heap.size w w' ∧ ((o = none ∧ ∃ r v, e = .returned (.tuple #[v, .bool false]) ∧ RuleFr w' w.heap.size v r) ∨ ∃ r v, o = some r ∧ e = .returned (.tuple #[v, .bool true]) ∧ RuleFr w' w.heap.size v r)
/-- The rule of words, as rr has it. -/
def rw1 (ws : List (List UInt8)) : Option Rl := match ws with
  | [] => none
  | w :: ws => if fk w = 0 then none else rdF 7 (r0 (fk w)) ws
/-- Texts lie in a block. -/
def WdB (W : World) (b : Nat) (ps : List ByteArray) : Prop := ∀ (j : Nat) (h : j < ps.length), W.cell? ⟨b, j, none⟩ = some (.string ps[j])
/-- All that the reading of a part asks. -/
structure KeepP (W : World) : Prop where
  pow : Pow W
  ers : ErS W
  wdw : WdW W
  tab : Tab W
  paw : PaW W
  frw : FrW W
theorem KeepP.below {W W' : World} (h : KeepP W) (q : Below W.heap.size W W') : KeepP W' := ⟨h.pow.below q, h.ers.below q, h.wdw.below q, h.tab.below q, h.paw.below q, h.frw.below q⟩
theorem fN : ∀ args w, (callFunc 75 args).run Tryz.prog w = .ok (.enter 75 args) w := enters_of Tryz.func75 (by kernel_rfl) rfl
theorem fWk : ∀ args w, (callFunc 79 args).run Tryz.prog w = .ok (.enter 79 args) w := enters_of Tryz.func79 (by kernel_rfl) rfl
/-- parsePart, at any part. -/
theorem parsePart_any (k : Nat) (hk : k < 7) (s : ByteArray) (r : Rl) (b : Nat) (w : World) (h : BoxR w b r) (hK : KeepP w) (hs : s.size ≤ 2000000) :
    Calls Tryz.prog 61 #[.pointer (some ⟨b, 0, none⟩), .int .i64 k, .string s] w (PartA w b (ap k s.data.toList r)) := by
  have K1 := Lib.hid (parseNumber_any s w hK.pow hK.ers hs)
  have K2 := Lib.hid (parseDay_any s w hK.tab hs)
  have K3 := Lib.hid (parseList_int _ (nr 4) fN s w hs (fun x hx W hb => parseNumber_any x W (hK.pow.below hb) (hK.ers.below hb) (by omega)))
  have K4 := Lib.hid (parseList_nth _ wr fWk s w hs (fun x hx W hb => parseWeek_any x W (hK.pow.below hb) (hK.ers.below hb) (hK.wdw.below hb) (by omega)))
  rcases seven hk with rfl | rfl | rfl | rfl | rfl | rfl | rfl
  · exact part_0 s r b w h K1
  · exact part_1 s r b w h K1
  · exact part_2 s r b w h K2
  · exact part_3 s r b w h K3
  · exact part_4 s r b w h K3
  · exact part_5 s r b w h K4
  · exact part_6 s r b w h K3
theorem there_on {W W' : World} {B b n : Nat} (h : W.there b 0 n) (q : Below B W W') (hb : b < B) : W'.there b 0 n := fun j hj => by
  obtain ⟨h1, h2⟩ := h j hj
  rw [q.cell (p := ⟨b, 0 + j, none⟩) hb, q.frozen (p := ⟨b, 0 + j, none⟩) hb]
  exact ⟨h1, h2⟩
theorem there_new (W : World) (t : TypeId) : (W.alloc (.cells #[.int .i64 0, .int .i64 0, .int .i64 0, .int .i64 0, .slice none 0 0, .slice none 0 0, .slice none 0 0, .slice none 0 0] t)).there W.heap.size 0 8 := fun j hj => by
  rcases (by omega : j = 0 ∨ j = 1 ∨ j = 2 ∨ j = 3 ∨ j = 4 ∨ j = 5 ∨ j = 6 ∨ j = 7) with rfl | rfl | rfl | rfl | rfl | rfl | rfl | rfl <;> simp
theorem zero_in (w : World) (n : Nat) : RuleFr w n (.agg #[.int .i64 0, .int .i64 0, .int .i64 0, .int .i64 0, .slice none 0 0, .slice none 0 0, .slice none 0 0, .slice none 0 0]) ⟨0, 0, 0, 0, [], [], [], []⟩ :=
  ⟨_, _, _, _, rfl, ⟨⟨none, 0, rfl, Or.inl rfl⟩, Far.none _ _ _⟩, ⟨⟨none, 0, rfl, Or.inl rfl⟩, Far.none _ _ _⟩, ⟨⟨none, 0, rfl, Or.inl rfl⟩, Far.none _ _ _⟩, ⟨none, 0, rfl, Or.inl rfl⟩, Far.none _ _ _⟩
theorem box_new (W : World) (f : Int) (t : TypeId) : BoxR (W.alloc (.cells #[.int .i64 f, .int .i64 1, .int .i64 0, .int .i64 0, .slice none 0 0, .slice none 0 0, .slice none 0 0, .slice none 0 0] t)) W.heap.size (r0 f) :=
  ⟨_, _, _, _, RBox.new W f 1 0 0 (.slice none 0 0) (.slice none 0 0) (.slice none 0 0) (.slice none 0 0) t, fun o => by simp, ⟨⟨none, 0, rfl, Or.inl rfl⟩, Far.none _ _ _⟩, ⟨⟨none, 0, rfl, Or.inl rfl⟩, Far.none _ _ _⟩, ⟨⟨none, 0, rfl, Or.inl rfl⟩, Far.none _ _ _⟩, ⟨none, 0, rfl, Or.inl rfl⟩, Far.none _ _ _⟩
/-- The words from a place on. -/
def rest (ps : List ByteArray) (d : Nat) : List (List UInt8) := (ps.drop d).map (·.data.toList)
theorem rest_two {ps : List ByteArray} {d : Nat} (h : d + 1 < ps.length) : rest ps d = (ps[d]).data.toList :: (ps[d + 1]).data.toList :: rest ps (d + 2) := by
  unfold rest
  rw [List.drop_eq_getElem_cons (by omega), List.map_cons, List.drop_eq_getElem_cons h, List.map_cons]
theorem rest_len (ps : List ByteArray) (d : Nat) : (rest ps d).length = ps.length - d := by unfold rest; rw [List.length_map, List.length_drop]
theorem rdF_short (m : Nat) (r : Rl) (ws : List (List UInt8)) (h : ws.length < 2) : rdF (m + 1) r ws = rdF m r ws := by
  match ws, h with
  | [], _ => cases m <;> simp [rdF]
  | [a], _ => cases m <;> simp [rdF]
theorem rdF_skip {m : Nat} {r : Rl} {x y : List UInt8} {ws : List (List UInt8)} (h : x ≠ kw (6 - m)) : rdF (m + 1) r (x :: y :: ws) = rdF m r (x :: y :: ws) := by
  conv => lhs; unfold rdF
  dsimp only
  rw [if_neg h]
theorem rdF_no {m : Nat} {r : Rl} {x y : List UInt8} {ws : List (List UInt8)} (h : x = kw (6 - m)) (ha : ap (6 - m) y r = none) : rdF (m + 1) r (x :: y :: ws) = none := by
  conv => lhs; unfold rdF
  dsimp only
  rw [if_pos h, ha]
theorem rdF_yes {m : Nat} {r r' : Rl} {x y : List UInt8} {ws : List (List UInt8)} (h : x = kw (6 - m)) (ha : ap (6 - m) y r = some r') : rdF (m + 1) r (x :: y :: ws) = rdF m r' ws := by
  conv => lhs; unfold rdF
  dsimp only
  rw [if_pos h, ha]
theorem rdF_end {r : Rl} {ws : List (List UInt8)} : rdF 0 r ws = if ws = [] then some r else none := rfl
/-- Where what is left of the words lies. -/
def LeftA (bw n d : Nat) (a : Option Addr) : Prop := d < n → a = some ⟨bw, d, none⟩
theorem box_in {W : World} {b : Nat} {r : Rl} (h : BoxR W b r) : ∃ vm vd vw vp, RBox W b r.freq r.every r.count r.till vm vd vw vp ∧ (Ints W vm r.months ∧ Ints W vd r.days ∧ Nths W vw r.weeks ∧ Ints W vp r.pick) := by
  obtain ⟨vm, vd, vw, vp, hR, _, ⟨a1, _⟩, ⟨b1, _⟩, ⟨c1, _⟩, d1, _⟩ := h
  exact ⟨vm, vd, vw, vp, hR, a1, b1, c1, d1⟩
set_option maxRecDepth 100000 in
set_option maxHeartbeats 4000000 in
theorem parseWords_any (ps : List ByteArray) (bw : Nat) (w : World) (hp : WdB w bw ps) (hn : 0 < ps.length) (hl : ps.length ≤ 2000001) (hs : ∀ x ∈ ps, x.size ≤ 2000000) (hK : KeepP w) :
    Calls Tryz.prog 32 #[.slice (some ⟨bw, 0, none⟩) ps.length ps.length] w (WordsA w (rw1 (ps.map (·.data.toList)))) := by
  have c0 := hp 0 hn
  have hbw : bw < w.heap.size := cell_lt c0
  obtain ⟨x0, hx0⟩ : ∃ x, x = ps[0] := ⟨_, rfl⟩
  rw [← hx0] at c0
  have B0 : Below w.heap.size w (w.alloc (.cells #[.int .i64 0, .int .i64 0, .int .i64 0, .int .i64 0, .slice none 0 0, .slice none 0 0, .slice none 0 0, .slice none 0 0] 25)) := (Below.refl _ _).alloc (Nat.le_refl _) _
  have HB := Lib.hid B0
  have HT := Lib.hid (there_new w 25)
  have HK := Lib.hid (hK.below B0)
  have HP : Hid (WdB (w.alloc (.cells #[.int .i64 0, .int .i64 0, .int .i64 0, .int .i64 0, .slice none 0 0, .slice none 0 0, .slice none 0 0, .slice none 0 0] 25)) bw ps) := Lib.hid (fun j h => (B0.cell (p := ⟨bw, j, none⟩) hbw).trans (hp j h))
  have KF := Lib.hid (parseFreq_any x0 _ HK.out.frw)
  have RW : Hid (rw1 (ps.map (·.data.toList)) = if fk x0.data.toList = 0 then none else rdF 7 (r0 (fk x0.data.toList)) ((ps.drop 1).map (·.data.toList))) := Lib.hid (by
    cases ps with
    | nil => simp at hn
    | cons a r => rw [hx0]; rfl)
  have hK0 := hK
  have hp0 := hp
  have hs0 := hs
  clear B0 hp hK hx0 hs
  by_cases h0 : fk x0.data.toList = 0
  · rw [posA_none h0] at KF
    have N1 : Hid (rw1 (ps.map (·.data.toList)) = none) := Lib.hid (by rw [RW.out, if_pos h0])
    clear h0
    go_enter Tryz.func32, Tryz.ntmps32
    go_wp2_with fail
    refine KF.out.mono ?_
    rintro e w1 ⟨rfl, hw⟩
    subst hw
    go_wp2
    refine bodyPost_ret (v := .tuple #[.agg #[.int .i64 0, .int .i64 0, .int .i64 0, .int .i64 0, .slice none 0 0, .slice none 0 0, .slice none 0 0, .slice none 0 0], .bool false]) (by simp [results, Tryz.results32, go_sem]) rfl ⟨HB.out, Or.inl ⟨N1.out, _, _, rfl, zero_in _ _⟩⟩
  · have hf := fq_fk h0
    obtain ⟨f, hfe⟩ : ∃ f, f = fk x0.data.toList := ⟨_, rfl⟩
    rw [posA_some rfl h0] at KF
    rw [if_neg h0] at RW
    rw [← hfe] at KF RW hf
    clear h0 hfe
    go_enter Tryz.func32, Tryz.ntmps32
    go_wp2_with fail
    refine KF.out.mono ?_
    rintro e w1 ⟨rfl, hw⟩
    subst hw
    clear KF
    have pl1 : (1 : Int) ≤ ps.length := by omega
    go_wp2_with fail
    go_region_held3 (fun _ => True) (trivial) (fail)
    have X1 : Hid (BoxR ((w.alloc (.cells #[.int .i64 0, .int .i64 0, .int .i64 0, .int .i64 0, .slice none 0 0, .slice none 0 0, .slice none 0 0, .slice none 0 0] 25)).alloc (.cells #[.int .i64 f, .int .i64 1, .int .i64 0, .int .i64 0, .slice none 0 0, .slice none 0 0, .slice none 0 0, .slice none 0 0] 25)).drew (w.heap.size + 1) (r0 f)) := Lib.hid (by
      have := (box_new (w.alloc (.cells #[.int .i64 0, .int .i64 0, .int .i64 0, .int .i64 0, .slice none 0 0, .slice none 0 0, .slice none 0 0, .slice none 0 0] 25)) f 25).on (Below.drew (Below.refl _ _))
      simpa using this)
    have B1 : Hid (Below w.heap.size w ((w.alloc (.cells #[.int .i64 0, .int .i64 0, .int .i64 0, .int .i64 0, .slice none 0 0, .slice none 0 0, .slice none 0 0, .slice none 0 0] 25)).alloc (.cells #[.int .i64 f, .int .i64 1, .int .i64 0, .int .i64 0, .slice none 0 0, .slice none 0 0, .slice none 0 0, .slice none 0 0] 25)).drew) := Lib.hid ((HB.out.alloc HB.out.size _).drew)
    have T1 : Hid (((w.alloc (.cells #[.int .i64 0, .int .i64 0, .int .i64 0, .int .i64 0, .slice none 0 0, .slice none 0 0, .slice none 0 0, .slice none 0 0] 25)).alloc (.cells #[.int .i64 f, .int .i64 1, .int .i64 0, .int .i64 0, .slice none 0 0, .slice none 0 0, .slice none 0 0, .slice none 0 0] 25)).drew.there w.heap.size 0 8) := Lib.hid (there_on HT.out (((Below.refl _ _).alloc (Nat.le_refl _) _).drew) (by simp))
    have HKW : Hid (∀ W, Below w.heap.size w W → KeepP W) := Lib.hid (fun W q => hK0.below q)
    have HPW : Hid (∀ W, Below w.heap.size w W → WdB W bw ps) := Lib.hid (fun W q j h => (q.cell (p := ⟨bw, j, none⟩) hbw).trans (hp0 j h))
    clear HB HT HK HP hK0 hp0 c0 pl1
    generalize hav : (if ps.length = 1 then some (⟨bw, 0, none⟩ : Addr) else some ⟨bw, 1, none⟩) = av
    have LA : LeftA bw ps.length 1 av := fun h => by rw [← hav, if_neg (by omega)]
    clear hav
    generalize ((w.alloc (.cells #[.int .i64 0, .int .i64 0, .int .i64 0, .int .i64 0, .slice none 0 0, .slice none 0 0, .slice none 0 0, .slice none 0 0] 25)).alloc (.cells #[.int .i64 f, .int .i64 1, .int .i64 0, .int .i64 0, .slice none 0 0, .slice none 0 0, .slice none 0 0, .slice none 0 0] 25)).drew = W1 at X1 B1 T1 ⊢
    have P7 := (HKW.out _ B1.out).paw
    have e0 := P7 0 (by decide)
    have e1 := P7 1 (by decide)
    have e2 := P7 2 (by decide)
    have e3 := P7 3 (by decide)
    have e4 := P7 4 (by decide)
    have e5 := P7 5 (by decide)
    have e6 := P7 6 (by decide)
    clear P7
    go_wp2
    clear e0 e1 e2 e3 e4 e5 e6
    go_loopw [7, 25] (fun lv i wr => ∃ (k d : Nat) (a : Option Addr) (r : Rl), k ≤ 7 ∧ i = .int .i64 k ∧ d ≤ ps.length ∧ lv = .slice a (ps.length - d) (ps.length - d) ∧ LeftA bw ps.length d a ∧ BoxR wr (w.heap.size + 1) r ∧ Below (w.heap.size + 1) W1 wr ∧ rdF (7 - k) r (rest ps d) = rw1 (ps.map (·.data.toList))) (fun _ i _ => 7 - (intOf i).toNat)
    case atStart => exact ⟨0, 1, av, r0 f, by omega, rfl, by omega, rfl, LA, X1.out, Below.refl _ _, RW.out.symm⟩
    case round =>
      clear X1 LA
      obtain ⟨k, d, a, r, hk, rfl, hd, rfl, hLA, hX, hB, hI⟩ := hrel
      have hBw : Below w.heap.size w wr := B1.out.trans (hB.mono (by omega))
      have HX := Lib.hid hX
      have HBB := Lib.hid hB
      have HBW := Lib.hid hBw
      have HI := Lib.hid hI
      have HLA := Lib.hid hLA
      clear hX hB hBw hI hLA
      by_cases hlt : k < 7
      · have ix := idxP k hlt
        have k7 : (k : Int) < 7 := by omega
        have ek : 7 - k = (6 - k) + 1 := by omega
        have ek2 : 6 - (6 - k) = k := by omega
        have ek3 : 7 - (k + 1) = 6 - k := by omega
        by_cases h2 : ps.length - d < 2
        · have h2' : ((ps.length - d : Nat) : Int) < 2 := by omega
          have N1 : Hid (rdF (7 - (k + 1)) r (rest ps d) = rw1 (ps.map (·.data.toList))) := Lib.hid (by rw [ek3, ← HI.out, ek, rdF_short _ _ _ (by rw [rest_len]; exact h2)])
          clear ek ek2 ek3
          go_wp2
          go_roundw
          case rel => exact ⟨k + 1, d, a, r, by omega, by go_num, hd, rfl, HLA.out, HX.out, HBB.out, N1.out⟩
          case measure => simp [intOf]; omega
        · have h2' : (2 : Int) ≤ ((ps.length - d : Nat) : Int) := by omega
          have hdn : d + 1 < ps.length := by omega
          have ea : a = some ⟨bw, d, none⟩ := HLA.out (by omega)
          subst ea
          have WB := HPW.out _ HBW.out
          have cx := WB d (by omega)
          have cy := WB (d + 1) hdn
          obtain ⟨x, hx⟩ : ∃ x, x = ps[d] := ⟨_, rfl⟩
          obtain ⟨y, hy⟩ : ∃ y, y = ps[d + 1] := ⟨_, rfl⟩
          rw [← hx] at cx
          rw [← hy] at cy
          have hys : y.size ≤ 2000000 := by rw [hy]; exact hs0 _ (List.getElem_mem hdn)
          have RT : Hid (rest ps d = x.data.toList :: y.data.toList :: rest ps (d + 2)) := Lib.hid (by rw [hx, hy]; exact rest_two hdn)
          clear hx hy WB
          by_cases hw : x.data.toList = kw k
          · have e1 : (x.toList == (tb (kw k)).toList) = true := by rw [Lib.toList_data, Lib.toList_data, tb_data, hw]; simp
            have KP := Lib.hid (parsePart_any k hlt y r (w.heap.size + 1) wr HX.out (HKW.out _ HBW.out) hys)
            have HW := Lib.hid hw
            clear hw
            go_wp2_with fail
            refine KP.out.mono ?_
            rintro e w2 ⟨hb2, hv⟩
            have T3 := there_on T1.out (HBB.out.trans hb2) (Nat.lt_succ_self _)
            have BW := HBW.out.trans (hb2.mono (by omega))
            have B3 := Lib.hid (HBB.out.trans hb2)
            rcases hv with ⟨ho, rfl⟩ | ⟨r', ho, rfl, hX2⟩
            · have N1 : Hid (rw1 (ps.map (·.data.toList)) = none) := Lib.hid (by rw [← HI.out, ek, RT.out, rdF_no (by rw [ek2]; exact HW.out) (by rw [ek2]; exact ho)])
              clear ho ek ek2 ek3 hb2
              go_wp2_with (refine wpList_store_keep rfl 25 (.tmp 2) (.tmp 45) rfl w.heap.size #[.int .i64 0, .int .i64 0, .int .i64 0, .int .i64 0, .slice none 0 0, .slice none 0 0, .slice none 0 0, .slice none 0 0] rfl rfl T3 (by kernel_rfl) (by simp [Value.oneCell']) BW (Nat.le_refl _) ?_)
              intro W4 R4 B4 _
              have r0 := R4 0 _ rfl
              have r1 := R4 1 _ rfl
              have r2 := R4 2 _ rfl
              have r3 := R4 3 _ rfl
              have r4 := R4 4 _ rfl
              have r5 := R4 5 _ rfl
              have r6 := R4 6 _ rfl
              have r7 := R4 7 _ rfl
              simp only [Nat.zero_add] at r0 r1 r2 r3 r4 r5 r6 r7
              clear R4
              go_wp2
              refine bodyPost_ret (v := .tuple #[.agg #[.int .i64 0, .int .i64 0, .int .i64 0, .int .i64 0, .slice none 0 0, .slice none 0 0, .slice none 0 0, .slice none 0 0], .bool false]) (by simp [results, Tryz.results32, go_sem, r0, r1, r2, r3, r4, r5, r6, r7]) rfl ⟨B4, Or.inl ⟨N1.out, _, _, rfl, zero_in _ _⟩⟩
            · have N1 : Hid (rdF (7 - (k + 1)) r' (rest ps (d + 2)) = rw1 (ps.map (·.data.toList))) := Lib.hid (by rw [ek3, ← HI.out, ek, RT.out, rdF_yes (by rw [ek2]; exact HW.out) (by rw [ek2]; exact ho)])
              have HX2 := Lib.hid hX2
              clear ho ek ek2 ek3 hb2 hX2 T3 BW
              go_wp2
              go_roundw
              case rel => exact ⟨k + 1, d + 2, _, r', by omega, by go_num, by omega, by rw [show ps.length - (d + 2) = ps.length - d - 2 by omega], fun h => by rw [if_neg (by omega)], HX2.out, B3.out, N1.out⟩
              case measure => simp [intOf]; omega
          · have e1 : (x.toList == (tb (kw k)).toList) = false := by rw [Lib.toList_data, Lib.toList_data, tb_data]; simpa using hw
            have N1 : Hid (rdF (7 - (k + 1)) r (rest ps d) = rw1 (ps.map (·.data.toList))) := Lib.hid (by rw [ek3, ← HI.out, ek, RT.out, rdF_skip (by rw [ek2]; exact hw)])
            clear hw ek ek2 ek3
            go_wp2
            go_roundw
            case rel => exact ⟨k + 1, d, _, r, by omega, by go_num, hd, rfl, HLA.out, HX.out, HBB.out, N1.out⟩
            case measure => simp [intOf]; omega
      · obtain rfl : k = 7 := by omega
        have hI := HI.out
        rw [show 7 - 7 = 0 from rfl, rdF_end] at hI
        have T3 := there_on T1.out HBB.out (Nat.lt_succ_self _)
        obtain ⟨vm, vd, vw, vp, hR, hf, ⟨m1, m2⟩, ⟨d1, d2⟩, ⟨k1, k2⟩, p1, p2⟩ := HX.out
        have KI := Lib.hid (And.intro (And.intro m1 m2) (And.intro (And.intro d1 d2) (And.intro (And.intro k1 k2) (And.intro p1 p2))))
        obtain ⟨am, cm, rfl, _⟩ := id m1
        obtain ⟨ad, cd, rfl, _⟩ := id d1
        obtain ⟨aw, cw, rfl, _⟩ := id k1
        obtain ⟨ap, cp, rfl, _⟩ := id p1
        obtain ⟨q0, q1, q2, q3, q4, q5, q6, q7⟩ := hR
        have BW := HBW.out
        clear m1 m2 d1 d2 k1 k2 p1 p2 hf HX
        have fin : ∀ W4 : World, Below w.heap.size w W4 → (∀ g o, w.heap.size < g → W4.cell? ⟨g, o, none⟩ = wr.cell? ⟨g, o, none⟩) → RuleFr W4 w.heap.size (.agg #[.int .i64 r.freq, .int .i64 r.every, .int .i64 r.count, .int .i64 r.till, .slice am r.months.length cm, .slice ad r.days.length cd, .slice aw r.weeks.length cw, .slice ap r.pick.length cp]) r := fun W4 _ q => by
          obtain ⟨⟨m1, m2⟩, ⟨d1, d2⟩, ⟨k1, k2⟩, p1, p2⟩ := KI.out
          have q' : ∀ g o, w.heap.size + 1 < g → W4.cell? ⟨g, o, none⟩ = wr.cell? ⟨g, o, none⟩ := fun g o h => q g o (by omega)
          exact ⟨_, _, _, _, rfl, ⟨m1.keep m2 q', m2.le (by omega)⟩, ⟨d1.keep d2 q', d2.le (by omega)⟩, ⟨k1.keep k2 q', k2.le (by omega)⟩, p1.keep p2 q', p2.le (by omega)⟩
        have FN := Lib.hid fin
        clear fin KI
        by_cases hz : ps.length - d = 0
        · have N1 : Hid (rw1 (ps.map (·.data.toList)) = some r) := Lib.hid (by rw [← hI, if_pos (List.eq_nil_of_length_eq_zero (by rw [rest_len]; exact hz))])
          clear hI
          go_wp2_with (refine wpList_store_keep rfl 25 (.tmp 2) (.tmp 49) rfl w.heap.size _ rfl rfl T3 (by kernel_rfl) (by simp [Value.oneCell']) BW (Nat.le_refl _) ?_)
          intro W4 R4 B4 Q4
          have RI := Lib.hid (FN.out W4 B4 Q4)
          have r0 := R4 0 _ rfl
          have r1 := R4 1 _ rfl
          have r2 := R4 2 _ rfl
          have r3 := R4 3 _ rfl
          have r4 := R4 4 _ rfl
          have r5 := R4 5 _ rfl
          have r6 := R4 6 _ rfl
          have r7 := R4 7 _ rfl
          simp only [Nat.zero_add] at r0 r1 r2 r3 r4 r5 r6 r7
          clear R4 Q4
          go_wp2
          refine bodyPost_ret (v := .tuple #[.agg #[.int .i64 r.freq, .int .i64 r.every, .int .i64 r.count, .int .i64 r.till, .slice am r.months.length cm, .slice ad r.days.length cd, .slice aw r.weeks.length cw, .slice ap r.pick.length cp], .bool true]) (by simp [results, Tryz.results32, go_sem, r0, r1, r2, r3, r4, r5, r6, r7]) rfl ⟨B4, Or.inr ⟨_, _, N1.out, rfl, RI.out⟩⟩
        · have N1 : Hid (rw1 (ps.map (·.data.toList)) = none) := Lib.hid (by rw [← hI, if_neg (fun e => hz (by rw [← rest_len, e]; rfl))])
          have hz' : (((ps.length - d : Nat) : Int) == 0) = false := by rw [beq_eq_false_iff_ne]; omega
          clear hI
          go_wp2_with (refine wpList_store_keep rfl 25 (.tmp 2) (.tmp 49) rfl w.heap.size _ rfl rfl T3 (by kernel_rfl) (by simp [Value.oneCell']) BW (Nat.le_refl _) ?_)
          intro W4 R4 B4 Q4
          have RI := Lib.hid (FN.out W4 B4 Q4)
          have r0 := R4 0 _ rfl
          have r1 := R4 1 _ rfl
          have r2 := R4 2 _ rfl
          have r3 := R4 3 _ rfl
          have r4 := R4 4 _ rfl
          have r5 := R4 5 _ rfl
          have r6 := R4 6 _ rfl
          have r7 := R4 7 _ rfl
          simp only [Nat.zero_add] at r0 r1 r2 r3 r4 r5 r6 r7
          clear R4 Q4
          go_wp2
          refine bodyPost_ret (v := .tuple #[.agg #[.int .i64 r.freq, .int .i64 r.every, .int .i64 r.count, .int .i64 r.till, .slice am r.months.length cm, .slice ad r.days.length cd, .slice aw r.weeks.length cw, .slice ap r.pick.length cp], .bool false]) (by simp [results, Tryz.results32, go_sem, r0, r1, r2, r3, r4, r5, r6, r7]) rfl ⟨B4, Or.inl ⟨N1.out, _, _, rfl, RI.out⟩⟩
end Go.Proofs.YtoafdacgekmomabGreatDoor
