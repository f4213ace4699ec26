/-
  What is proved here: what package card's each lists (contracts over the translation).
-/
import Derived.Test.YtpplfcfhjpfckaaGreatDoorCbPr
import Derived.Test.YtpplfcfhjpfckaaGreatDoorLnTxs
namespace Go.Proofs.YtpplfcfhjpfckaaGreatDoor
open Go.RowKit Cal Txt Ln Cb

/-- What a slice names lies from a block on. -/
def Nw (B : Nat) (v : Value) : Prop := ∀ a n c, v = .slice (some a) n c → B ≤ a.block
theorem own_nw {W : World} {B n sz : Nat} {t : TypeId} {v : Value} {xs : List Value} (h : W.ownsRow B t sz v n xs) : Nw B v := fun a k c e => by
  rcases h.2 with ⟨q, _⟩ | ⟨g, cap, cur, q, hb, _⟩
  · rw [q] at e; cases e
  · rw [q] at e
    have : (⟨g, 0, none⟩ : Addr) = a := by injection e with e1 e2 e3; injection e1
    rw [← this]; exact hb
theorem Nw.mono {B C : Nat} {v : Value} (h : Nw B v) (k : C ≤ B) : Nw C v := fun a n c e => Nat.le_trans k (h a n c e)
theorem gat_whole {α : Type} (tx : α → List UInt8) (l : List α) : gat tx l l.length = (l.map tx).map tb := by
  unfold gat
  rw [List.take_length, List.map_map]
  rfl
/-- What a call that lists texts answers. -/
def VlA (ls : List (List UInt8)) (w : World) (e : Ending) (w' : World) : Prop := ∃ u, e = .returned u ∧ Txs w' u (ls.map tb) ∧ Nw w.heap.size u ∧ Below w.heap.size w w'
set_option maxRecDepth 100000 in
set_option maxHeartbeats 4000000 in
theorem each_int (g : FuncId) (tx : Int → List UInt8) (eg : ∀ args w, (callFunc g args).run Tryz.prog w = .ok (.enter g args) w) (v : Value) (l : List (Int)) (w : World) (hv : Ints w v l) (hl : l.length ≤ 100)
    (hg : ∀ (x : Int), x ∈ l → ∀ W, Below w.heap.size w W → Calls Tryz.prog g #[.int .i64 x] W fun e w' => e = .returned (.string (tb (tx x))) ∧ Below W.heap.size W w') :
    Calls Tryz.prog 59 #[v, .func (.func g) #[] #[]] w (VlA (l.map tx) w) := by
  unfold VlA
  obtain ⟨i0, hi, hz0, hz1, hz2⟩ := info_parts info_str
  have HV := Lib.hid hv
  have HG := Lib.hid hg
  clear hg
  obtain ⟨a, cap, rfl, hc⟩ := hv
  rcases hc with rfl | ⟨b, off, rfl, hc⟩
  · go_enter Tryz.func59, Tryz.ntmps59
    go_wp2_with (at_make; refine wpList_make_own _ rfl _ _ 54 rfl w.heap.size 9 i0 (.string ByteArray.empty) 1 Tryz.underlying54 hi hz0 hz1 _ _ _ 0 rfl rfl (by simp) ?b2 ?b3 (Nat.le_refl _) ?_)
    case b2 => rw [hz2]; omega
    case b3 => unfold maxLen; omega
    intro w0 hown0 hgrow0
    have hB0 : Below w.heap.size w w0 := (Below.refl _ _).grown hgrow0 (Nat.le_refl _) (fun k h => by cases h)
    have ZZ := Lib.hid (And.intro (own_txs (xs := []) hown0) (And.intro (own_nw hown0) hB0))
    clear hown0 hgrow0 hB0
    go_wp2
    go_loop [5, 13] (fun v i => v = .slice (some ⟨w.heap.size, 0, none⟩) 0 0 ∧ i = .int .i64 0) (fun _ _ => 0)
    case atStart => exact ⟨rfl, rfl⟩
    case round =>
      obtain ⟨rfl, rfl⟩ := hrel
      go_wp2
      go_ret
      exact ⟨_, rfl, ZZ.out⟩
  · clear hc
    go_enter Tryz.func59, Tryz.ntmps59
    go_wp2_with (at_make; refine wpList_make_own _ rfl _ _ 54 rfl w.heap.size 9 i0 (.string ByteArray.empty) 1 Tryz.underlying54 hi hz0 hz1 _ _ _ l.length rfl rfl rfl ?b2 ?b3 (Nat.le_refl _) ?_)
    case b2 => rw [hz2]; omega
    case b3 => unfold maxLen; omega
    intro w0 hown0 hgrow0
    have hB0 : Below w.heap.size w w0 := (Below.refl _ _).grown hgrow0 (Nat.le_refl _) (fun k h => by cases h)
    have HB0 := Lib.hid hB0
    have HO0 := Lib.hid hown0
    clear hown0 hgrow0 hB0
    go_wp2
    go_loopw [5, 13] (fun v i wr => ∃ k : Nat, k ≤ l.length ∧ i = .int .i64 k ∧ wr.ownsRow w.heap.size 9 1 v k (strs (gat tx l k)) ∧ Below w.heap.size w wr) (fun _ i _ => l.length - (intOf i).toNat)
    case atStart => exact ⟨0, Nat.zero_le _, rfl, HO0.out, HB0.out⟩
    case round =>
      clear HO0 HB0
      obtain ⟨k, hk, rfl, hown, hB⟩ := hrel
      have HO := Lib.hid hown
      clear hown
      by_cases hlt : k < l.length
      · obtain ⟨a', c', e', hc⟩ := HV.out.on hB
        rcases hc with hc | ⟨b', off', ea, hc⟩
        · rw [hc] at hlt; simp at hlt
        obtain ⟨⟨rfl, rfl⟩, rfl⟩ : (b = b' ∧ off = off') ∧ cap = c' := by simpa [ea] using e'
        have ck := hc k hlt
        obtain ⟨x, hx⟩ : ∃ x, x = l.getD k 0 := ⟨_, rfl⟩
        have hmem : x ∈ l := by rw [hx, List.getD_eq_getElem?_getD, List.getElem?_eq_getElem hlt]; exact List.getElem_mem hlt
        rw [← hx] at ck
        have HX := Lib.hid hx
        have HM := Lib.hid hmem
        clear hx hc ea e' hmem
        go_wp2_with fail
        refine (HG.out x HM.out _ hB).mono ?_
        rintro e w1 ⟨rfl, hb⟩
        have hx0 : Below wr.heap.size wr w1 := hb
        clear hb
        have HX0 := Lib.hid hx0
        have HO1 := Lib.hid (own_below HO.out hx0)
        have sz : w.heap.size ≤ w1.heap.size := by have := hx0.size; have := hB.size; omega
        clear hx0
        go_wp2_with (at_builtin; refine wpList_append_own _ rfl _ _ 54 rfl w.heap.size 9 i0 (.string ByteArray.empty) 1 16 Tryz.underlying54 hi hz0 hz1 hz2 rfl (by decide) _ _ _ rfl (HO1.out.alloc _) ⟨w1.heap.size, 0, none⟩ 1 1 [.string (tb (tx x))] rfl rfl ?c1 ?c2 ?c3 ?c4 ?c5 ?_)
        case c1 =>
          intro j u hj
          match j, hj with
          | 0, hj => simp at hj; subst hj; simp [Addr.add]
        case c2 => intro u hu; simp at hu; subst hu; rfl
        case c3 => unfold maxLen; omega
        case c4 => omega
        case c5 => simp; omega
        intro v' w2 hown' hgrow _
        have R := own_next hB.size hB HX0.out HO.out hown' hgrow
        have N1 := Lib.hid (gat_next tx l k 0 hlt)
        rw [← HX.out] at N1
        have R1 := Lib.hid R.1
        have R2 := Lib.hid R.2
        rw [← N1.out] at R1
        clear R hown' hgrow HO1 HO HX0 N1
        go_wp2
        go_roundw
        case rel => exact ⟨k + 1, by omega, by go_num, R1.out, R2.out⟩
        case measure => simp [intOf]; omega
      · have hkl : k = l.length := by omega
        subst hkl
        have ZZ := Lib.hid (And.intro (own_txs HO.out) (And.intro (own_nw HO.out) hB))
        rw [gat_whole] at ZZ
        obtain ⟨⟨a2, c2, rfl, _⟩, _⟩ := id ZZ.out
        clear HO
        go_wp2
        go_ret
        exact ⟨_, rfl, ZZ.out⟩
set_option maxRecDepth 100000 in
set_option maxHeartbeats 4000000 in
theorem each_chg (g : FuncId) (tx : Int × Int → List UInt8) (eg : ∀ args w, (callFunc g args).run Tryz.prog w = .ok (.enter g args) w) (v : Value) (l : List (Int × Int)) (w : World) (hv : Nths w v l) (hl : l.length ≤ 100)
    (hg : ∀ (x : Int × Int), x ∈ l → ∀ W, Below w.heap.size w W → Calls Tryz.prog g #[.agg #[.int .i64 x.1, .int .i64 x.2]] W fun e w' => e = .returned (.string (tb (tx x))) ∧ Below W.heap.size W w') :
    Calls Tryz.prog 60 #[v, .func (.func g) #[] #[]] w (VlA (l.map tx) w) := by
  unfold VlA
  obtain ⟨i0, hi, hz0, hz1, hz2⟩ := info_parts info_str
  have HV := Lib.hid hv
  have HG := Lib.hid hg
  clear hg
  obtain ⟨a, cap, rfl, hc⟩ := hv
  rcases hc with rfl | ⟨b, off, rfl, hc⟩
  · go_enter Tryz.func60, Tryz.ntmps60
    go_wp2_with (at_make; refine wpList_make_own _ rfl _ _ 54 rfl w.heap.size 9 i0 (.string ByteArray.empty) 1 Tryz.underlying54 hi hz0 hz1 _ _ _ 0 rfl rfl (by simp) ?b2 ?b3 (Nat.le_refl _) ?_)
    case b2 => rw [hz2]; omega
    case b3 => unfold maxLen; omega
    intro w0 hown0 hgrow0
    have hB0 : Below w.heap.size w w0 := (Below.refl _ _).grown hgrow0 (Nat.le_refl _) (fun k h => by cases h)
    have ZZ := Lib.hid (And.intro (own_txs (xs := []) hown0) (And.intro (own_nw hown0) hB0))
    clear hown0 hgrow0 hB0
    go_wp2
    go_loop [5, 13] (fun v i => v = .slice (some ⟨w.heap.size, 0, none⟩) 0 0 ∧ i = .int .i64 0) (fun _ _ => 0)
    case atStart => exact ⟨rfl, rfl⟩
    case round =>
      obtain ⟨rfl, rfl⟩ := hrel
      go_wp2
      go_ret
      exact ⟨_, rfl, ZZ.out⟩
  · clear hc
    go_enter Tryz.func60, Tryz.ntmps60
    go_wp2_with (at_make; refine wpList_make_own _ rfl _ _ 54 rfl w.heap.size 9 i0 (.string ByteArray.empty) 1 Tryz.underlying54 hi hz0 hz1 _ _ _ l.length rfl rfl rfl ?b2 ?b3 (Nat.le_refl _) ?_)
    case b2 => rw [hz2]; omega
    case b3 => unfold maxLen; omega
    intro w0 hown0 hgrow0
    have hB0 : Below w.heap.size w w0 := (Below.refl _ _).grown hgrow0 (Nat.le_refl _) (fun k h => by cases h)
    have HB0 := Lib.hid hB0
    have HO0 := Lib.hid hown0
    clear hown0 hgrow0 hB0
    go_wp2
    go_loopw [5, 13] (fun v i wr => ∃ k : Nat, k ≤ l.length ∧ i = .int .i64 k ∧ wr.ownsRow w.heap.size 9 1 v k (strs (gat tx l k)) ∧ Below w.heap.size w wr) (fun _ i _ => l.length - (intOf i).toNat)
    case atStart => exact ⟨0, Nat.zero_le _, rfl, HO0.out, HB0.out⟩
    case round =>
      clear HO0 HB0
      obtain ⟨k, hk, rfl, hown, hB⟩ := hrel
      have HO := Lib.hid hown
      clear hown
      by_cases hlt : k < l.length
      · obtain ⟨a', c', e', hc⟩ := HV.out.on hB
        rcases hc with hc | ⟨b', off', ea, hc⟩
        · rw [hc] at hlt; simp at hlt
        obtain ⟨⟨rfl, rfl⟩, rfl⟩ : (b = b' ∧ off = off') ∧ cap = c' := by simpa [ea] using e'
        have ck := hc k hlt
        obtain ⟨x, hx⟩ : ∃ x, x = l.getD k (0, 0) := ⟨_, rfl⟩
        have hmem : x ∈ l := by rw [hx, List.getD_eq_getElem?_getD, List.getElem?_eq_getElem hlt]; exact List.getElem_mem hlt
        rw [← hx] at ck
        obtain ⟨ck1, ck2⟩ := ck
        have HX := Lib.hid hx
        have HM := Lib.hid hmem
        clear hx hc ea e' hmem
        go_wp2_with fail
        refine (HG.out x HM.out _ (hB.alloc hB.size _)).mono ?_
        rintro e w1 ⟨rfl, hb⟩
        have hx0 : Below wr.heap.size wr w1 := ((Below.refl _ _).alloc (Nat.le_refl _) _).trans (hb.mono (by simp))
        clear hb
        have HX0 := Lib.hid hx0
        have HO1 := Lib.hid (own_below HO.out hx0)
        have sz : w.heap.size ≤ w1.heap.size := by have := hx0.size; have := hB.size; omega
        clear hx0
        go_wp2_with (at_builtin; refine wpList_append_own _ rfl _ _ 54 rfl w.heap.size 9 i0 (.string ByteArray.empty) 1 16 Tryz.underlying54 hi hz0 hz1 hz2 rfl (by decide) _ _ _ rfl (HO1.out.alloc _) ⟨w1.heap.size, 0, none⟩ 1 1 [.string (tb (tx x))] rfl rfl ?c1 ?c2 ?c3 ?c4 ?c5 ?_)
        case c1 =>
          intro j u hj
          match j, hj with
          | 0, hj => simp at hj; subst hj; simp [Addr.add]
        case c2 => intro u hu; simp at hu; subst hu; rfl
        case c3 => unfold maxLen; omega
        case c4 => omega
        case c5 => simp; omega
        intro v' w2 hown' hgrow _
        have R := own_next hB.size hB HX0.out HO.out hown' hgrow
        have N1 := Lib.hid (gat_next tx l k (0, 0) hlt)
        rw [← HX.out] at N1
        have R1 := Lib.hid R.1
        have R2 := Lib.hid R.2
        rw [← N1.out] at R1
        clear R hown' hgrow HO1 HO HX0 N1
        go_wp2
        go_roundw
        case rel => exact ⟨k + 1, by omega, by go_num, R1.out, R2.out⟩
        case measure => simp [intOf]; omega
      · have hkl : k = l.length := by omega
        subst hkl
        have ZZ := Lib.hid (And.intro (own_txs HO.out) (And.intro (own_nw HO.out) hB))
        rw [gat_whole] at ZZ
        obtain ⟨⟨a2, c2, rfl, _⟩, _⟩ := id ZZ.out
        clear HO
        go_wp2
        go_ret
        exact ⟨_, rfl, ZZ.out⟩
set_option maxRecDepth 100000 in
set_option maxHeartbeats 4000000 in
theorem each_alm (g : FuncId) (tx : Int × Bool × Int × Int → List UInt8) (eg : ∀ args w, (callFunc g args).run Tryz.prog w = .ok (.enter g args) w) (v : Value) (l : List (Int × Bool × Int × Int)) (w : World) (hv : Alms w v l) (hl : l.length ≤ 100)
    (hg : ∀ (x : Int × Bool × Int × Int), x ∈ l → ∀ W, Below w.heap.size w W → Calls Tryz.prog g #[.agg #[.int .i64 x.1, .bool x.2.1, .int .i64 x.2.2.1, .int .i64 x.2.2.2]] W fun e w' => e = .returned (.string (tb (tx x))) ∧ Below W.heap.size W w') :
    Calls Tryz.prog 62 #[v, .func (.func g) #[] #[]] w (VlA (l.map tx) w) := by
  unfold VlA
  obtain ⟨i0, hi, hz0, hz1, hz2⟩ := info_parts info_str
  have HV := Lib.hid hv
  have HG := Lib.hid hg
  clear hg
  obtain ⟨a, cap, rfl, hc⟩ := hv
  rcases hc with rfl | ⟨b, off, rfl, hc⟩
  · go_enter Tryz.func62, Tryz.ntmps62
    go_wp2_with (at_make; refine wpList_make_own _ rfl _ _ 54 rfl w.heap.size 9 i0 (.string ByteArray.empty) 1 Tryz.underlying54 hi hz0 hz1 _ _ _ 0 rfl rfl (by simp) ?b2 ?b3 (Nat.le_refl _) ?_)
    case b2 => rw [hz2]; omega
    case b3 => unfold maxLen; omega
    intro w0 hown0 hgrow0
    have hB0 : Below w.heap.size w w0 := (Below.refl _ _).grown hgrow0 (Nat.le_refl _) (fun k h => by cases h)
    have ZZ := Lib.hid (And.intro (own_txs (xs := []) hown0) (And.intro (own_nw hown0) hB0))
    clear hown0 hgrow0 hB0
    go_wp2
    go_loop [5, 13] (fun v i => v = .slice (some ⟨w.heap.size, 0, none⟩) 0 0 ∧ i = .int .i64 0) (fun _ _ => 0)
    case atStart => exact ⟨rfl, rfl⟩
    case round =>
      obtain ⟨rfl, rfl⟩ := hrel
      go_wp2
      go_ret
      exact ⟨_, rfl, ZZ.out⟩
  · clear hc
    go_enter Tryz.func62, Tryz.ntmps62
    go_wp2_with (at_make; refine wpList_make_own _ rfl _ _ 54 rfl w.heap.size 9 i0 (.string ByteArray.empty) 1 Tryz.underlying54 hi hz0 hz1 _ _ _ l.length rfl rfl rfl ?b2 ?b3 (Nat.le_refl _) ?_)
    case b2 => rw [hz2]; omega
    case b3 => unfold maxLen; omega
    intro w0 hown0 hgrow0
    have hB0 : Below w.heap.size w w0 := (Below.refl _ _).grown hgrow0 (Nat.le_refl _) (fun k h => by cases h)
    have HB0 := Lib.hid hB0
    have HO0 := Lib.hid hown0
    clear hown0 hgrow0 hB0
    go_wp2
    go_loopw [5, 13] (fun v i wr => ∃ k : Nat, k ≤ l.length ∧ i = .int .i64 k ∧ wr.ownsRow w.heap.size 9 1 v k (strs (gat tx l k)) ∧ Below w.heap.size w wr) (fun _ i _ => l.length - (intOf i).toNat)
    case atStart => exact ⟨0, Nat.zero_le _, rfl, HO0.out, HB0.out⟩
    case round =>
      clear HO0 HB0
      obtain ⟨k, hk, rfl, hown, hB⟩ := hrel
      have HO := Lib.hid hown
      clear hown
      by_cases hlt : k < l.length
      · obtain ⟨a', c', e', hc⟩ := HV.out.on hB
        rcases hc with hc | ⟨b', off', ea, hc⟩
        · rw [hc] at hlt; simp at hlt
        obtain ⟨⟨rfl, rfl⟩, rfl⟩ : (b = b' ∧ off = off') ∧ cap = c' := by simpa [ea] using e'
        have ck := hc k hlt
        obtain ⟨x, hx⟩ : ∃ x, x = l.getD k (0, false, 0, 0) := ⟨_, rfl⟩
        have hmem : x ∈ l := by rw [hx, List.getD_eq_getElem?_getD, List.getElem?_eq_getElem hlt]; exact List.getElem_mem hlt
        rw [← hx] at ck
        obtain ⟨ck1, ck2, ck3, ck4⟩ := ck
        have HX := Lib.hid hx
        have HM := Lib.hid hmem
        clear hx hc ea e' hmem
        go_wp2_with fail
        refine (HG.out x HM.out _ (hB.alloc hB.size _)).mono ?_
        rintro e w1 ⟨rfl, hb⟩
        have hx0 : Below wr.heap.size wr w1 := ((Below.refl _ _).alloc (Nat.le_refl _) _).trans (hb.mono (by simp))
        clear hb
        have HX0 := Lib.hid hx0
        have HO1 := Lib.hid (own_below HO.out hx0)
        have sz : w.heap.size ≤ w1.heap.size := by have := hx0.size; have := hB.size; omega
        clear hx0
        go_wp2_with (at_builtin; refine wpList_append_own _ rfl _ _ 54 rfl w.heap.size 9 i0 (.string ByteArray.empty) 1 16 Tryz.underlying54 hi hz0 hz1 hz2 rfl (by decide) _ _ _ rfl (HO1.out.alloc _) ⟨w1.heap.size, 0, none⟩ 1 1 [.string (tb (tx x))] rfl rfl ?c1 ?c2 ?c3 ?c4 ?c5 ?_)
        case c1 =>
          intro j u hj
          match j, hj with
          | 0, hj => simp at hj; subst hj; simp [Addr.add]
        case c2 => intro u hu; simp at hu; subst hu; rfl
        case c3 => unfold maxLen; omega
        case c4 => omega
        case c5 => simp; omega
        intro v' w2 hown' hgrow _
        have R := own_next hB.size hB HX0.out HO.out hown' hgrow
        have N1 := Lib.hid (gat_next tx l k (0, false, 0, 0) hlt)
        rw [← HX.out] at N1
        have R1 := Lib.hid R.1
        have R2 := Lib.hid R.2
        rw [← N1.out] at R1
        clear R hown' hgrow HO1 HO HX0 N1
        go_wp2
        go_roundw
        case rel => exact ⟨k + 1, by omega, by go_num, R1.out, R2.out⟩
        case measure => simp [intOf]; omega
      · have hkl : k = l.length := by omega
        subst hkl
        have ZZ := Lib.hid (And.intro (own_txs HO.out) (And.intro (own_nw HO.out) hB))
        rw [gat_whole] at ZZ
        obtain ⟨⟨a2, c2, rfl, _⟩, _⟩ := id ZZ.out
        clear HO
        go_wp2
        go_ret
        exact ⟨_, rfl, ZZ.out⟩
end Go.Proofs.YtpplfcfhjpfckaaGreatDoor
