/-
  What is proved here: what package period's picked answers (a contract over the translation).
-/
import Derived.Test.YtdiijpjfkgnjkadGreatDoorPeComp
import Derived.Test.YtdiijpjfkgnjkadGreatDoorOwn
namespace Go.Proofs.YtdiijpjfkgnjkadGreatDoor
open Go.RowKit Cal Txt

/-- What is answered: a list of numbers that lies there. -/
def IntsA (w : World) (l : List Int) (e : Ending) (w' : World) : Prop := ∃ v, e = .returned v ∧ Ints w' v l ∧ Below w.heap.size w w'
/-- A slice's row is none ahead of block B. -/
def Fr (B : Nat) (v : Value) : Prop := ∀ g, v.ownBlock = some g → B ≤ g
/-- .. in no block ahead of B. -/
def IntsF (w : World) (B : Nat) (l : List Int) (e : Ending) (w' : World) : Prop := ∃ v, e = .returned v ∧ Ints w' v l ∧ Below w.heap.size w w' ∧ Fr B v
theorem info_per_int : (Tryz.prog.info? 3).map (fun i => (i.zero, i.size, i.bytes)) = some (some (.int .i64 0), 1, 8) := by kernel_rfl
theorem pickK_len (p days : List Int) (k : Nat) : (pickK p days k).length ≤ k := by
  unfold pickK
  rw [List.length_map]
  have := List.length_filter_le (fun (i : Nat) => nameB p ((i : Int) + 1) (days.length : Int)) (List.range k)
  rwa [List.length_range] at this
set_option maxRecDepth 100000 in
set_option maxHeartbeats 2000000 in
theorem picked_new (B : Nat) (vd vp : Value) (l p : List Int) (w : World) (hd : Ints w vd l) (hp : Ints w vp p) (hl : l.length ≤ 1000) (hpl : p.length ≤ 1000) (hBs : B ≤ w.heap.size) (hF : Fr B vd) :
    Calls Tryz.prog 133 #[vd, vp] w (IntsF w B (pick p l)) := by
  have HF := Lib.hid hF
  clear hF
  obtain ⟨i0, hi, hz0, hz1, hz2⟩ := info_parts info_per_int
  have HP : Hid (∀ W, Below w.heap.size w W → Ints W vp p) := Lib.hid (fun W q => hp.on q)
  have HD : Hid (∀ W, Below w.heap.size w W → Ints W vd l) := Lib.hid (fun W q => hd.on q)
  obtain ⟨ad, cd, rfl, _⟩ := hd
  obtain ⟨ap, cp, rfl, _⟩ := hp
  rcases hz : ((p.length : Int) == 0) with _ | _
  case true =>
    have EC : Hid (pick p l = l) := Lib.hid (by unfold pick; rw [if_pos (by have := beq_iff_eq.1 hz; omega)])
    go_enter Tryz.func133, Tryz.ntmps133
    go_wp2
    go_ret
    exact ⟨_, rfl, by rw [EC.out]; exact HD.out _ (Below.refl _ _), Below.refl _ _, HF.out⟩
  have EC : Hid (pick p l = pickK p l l.length) := Lib.hid (by unfold pick; rw [if_neg (fun h => by rw [h] at hz; simp at hz)])
  go_enter Tryz.func133, Tryz.ntmps133
  go_wp2
  go_loopw [5, 14] (fun v i wr => ∃ k : Nat, k ≤ l.length ∧ i = .int .i64 k ∧ wr.ownsRow w.heap.size 3 1 v (pickK p l k).length (nums (pickK p l k)) ∧ Below w.heap.size w wr) (fun _ i _ => l.length - (intOf i).toNat)
  case atStart => exact ⟨0, Nat.zero_le _, rfl, World.ownsRow_nil _ _ _ _, Below.refl _ _⟩
  case round =>
    obtain ⟨k, hk, rfl, hown, hB⟩ := hrel
    have HO := Lib.hid hown
    have HB := Lib.hid hB
    clear hown
    by_cases hlt : k < l.length
    · obtain ⟨a', c', e', hc⟩ := HD.out _ hB
      obtain ⟨rfl, rfl⟩ : ad = a' ∧ cd = c' := by simpa using e'
      rcases hc with hc | ⟨b, off, rfl, hc⟩
      · rw [hc] at hlt; simp at hlt
      have k1 := hc k hlt
      obtain ⟨x, hx⟩ : ∃ x, x = l.getD k 0 := ⟨_, rfl⟩
      rw [← hx] at k1
      have HX := Lib.hid hx
      have KN := Lib.hid (names_any (.slice ap p.length cp) p ((k : Int) + 1) (l.length : Int) wr (HP.out _ hB) (by omega) (by omega) (by omega) (by omega) (by omega))
      have HN := Lib.hid (pickK_next p l k)
      have PK := pickK_len p l k
      clear hc e' hx
      generalize hs : pickK p l k = xs at HO HN PK
      clear hs
      rcases hn : nameB p ((k : Int) + 1) (l.length : Int) with _ | _
      · rw [hn] at KN
        have N1 : Hid (pickK p l (k + 1) = xs) := Lib.hid (by rw [HN.out, if_neg (by rw [hn]; decide)])
        clear hn HN
        go_wp2_with fail
        refine KN.out.mono ?_
        rintro e w2 ⟨rfl, hw⟩
        subst hw
        go_wp2
        go_roundw
        case rel => exact ⟨k + 1, by omega, by go_num, by rw [N1.out]; exact HO.out, HB.out⟩
        case measure => simp [intOf]; omega
      · rw [hn] at KN
        have N1 : Hid (pickK p l (k + 1) = xs ++ [x]) := Lib.hid (by rw [HN.out, if_pos hn, HX.out])
        clear hn HN
        go_wp2_with fail
        refine KN.out.mono ?_
        rintro e w2 ⟨rfl, hw⟩
        subst hw
        have HO1 := Lib.hid (ow_below HO.out (Below.refl _ w2))
        have sz : w.heap.size ≤ w2.heap.size := hB.size
        go_wp2_with (at_builtin; refine wpList_append_own _ rfl _ _ 22 rfl w.heap.size 3 i0 (.int .i64 0) 1 8 Tryz.underlying22 hi hz0 hz1 hz2 rfl (by decide) _ _ _ rfl (HO1.out.alloc _) ⟨w2.heap.size, 0, none⟩ 1 1 [.int .i64 x] rfl rfl ?c1 ?c2 ?c3 ?c4 ?c5 ?_)
        case c1 =>
          intro j u hj
          match j, hj with
          | 0, hj => simp at hj; subst hj; simp [Addr.add]
        case c2 => intro u hu; simp at hu; subst hu; rfl
        case c3 => unfold maxLen; omega
        case c4 => omega
        case c5 => simp; omega
        intro v' w3 hown' hgrow _
        have R2 := Lib.hid (ow_grow hB.size hB (Below.refl _ _) HO.out hgrow)
        have R1 := Lib.hid hown'
        rw [← nums_snoc] at R1
        clear hown' hgrow HO1 HO
        go_wp2
        go_roundw
        case rel => exact ⟨k + 1, by omega, by go_num, by rw [N1.out, List.length_append]; exact R1.out, R2.out⟩
        case measure => simp [intOf]; omega
    · have N1 : Hid (pickK p l k = pick p l) := Lib.hid (by rw [EC.out, show k = l.length by omega])
      have RR := Lib.hid (ow_ints HO.out)
      have RF := Lib.hid (show Fr B _ from fun g hg => Nat.le_trans hBs (HO.out.lt g hg).1)
      go_wp2
      go_ret
      exact ⟨_, rfl, by rw [← N1.out]; exact RR.out, HB.out, RF.out⟩
theorem picked_any (vd vp : Value) (l p : List Int) (w : World) (hd : Ints w vd l) (hp : Ints w vp p) (hl : l.length ≤ 1000) (hpl : p.length ≤ 1000) :
    Calls Tryz.prog 133 #[vd, vp] w (IntsA w (pick p l)) :=
  (picked_new 0 vd vp l p w hd hp hl hpl (Nat.zero_le _) (fun _ _ => Nat.zero_le _)).mono (fun _ _ ⟨v, h1, h2, h3, _⟩ => ⟨v, h1, h2, h3⟩)
end Go.Proofs.YtdiijpjfkgnjkadGreatDoor
