/-
  What is proved: chimelaw4.LineLong returns true for every number, and leaves all that was there as it was. Conditions: none.
-/
import Derived.Test.YtoafdacgekmomafRows
import Derived.Test.YtoafdacgekmomafLnFold
import Derived.Lib.UnsafeStr
import Derived.Laws.IdiomStrings
import Derived.WalkKit
import Derived.ProofKit
import Derived.OpenShut
namespace Go.Proofs.Ytoafdacgekmomaf.lineLong
open Go.ChangeShapes Go.WideShapes Go.ChangeAt Go.RowKit Ln

theorem own : ownKnob Try.prog.godebug = none := by kernel_rfl
theorem info_u8 : (Try.prog.info? 5).map (fun i => (i.zero, i.size, i.bytes)) = some (some (.int .u8 0), 1, 1) := by kernel_rfl
theorem fold_ab : fold [97, 98] = [[97, 98]] := by
  show [[97, 98]] ++ fr [] = _
  rw [fr_nil]; rfl
theorem made_bytes (n : Nat) : (madeCells #[Value.int .u8 0] n).toList = Lib.byteCells (List.replicate n 0) := by
  rw [toList_madeCells_one]
  simp [Lib.byteCells]
set_option maxRecDepth 100000 in
set_option maxHeartbeats 2000000 in
theorem walk (n : Int) (w : World) :
    Calls Try.prog 3 #[.int .i64 n] w fun e w' => e = .returned (.bool true) ∧ Below w.heap.size w w' := by
  obtain ⟨i0, hi, hz0, hz1, hz2⟩ := info_parts info_u8
  go_enter Try.func3, Try.ntmps3
  go_wp2_with fail
  refine (fold_any ⟨#[97, 98]⟩ _ (by decide)).mono ?_
  rintro e w1 ⟨hB, v, xs, rfl, hown, hxs⟩
  have hf : fold (⟨#[97, 98]⟩ : ByteArray).data.toList = [[97, 98]] := fold_ab
  rw [hf] at hown hxs
  obtain ⟨x, rfl⟩ : ∃ x, xs = [x] := by
    match xs, hxs with
    | [x], _ => exact ⟨x, rfl⟩
  have hx : x = ⟨#[97, 98]⟩ := ByteArray.ext (Array.ext' (by simpa using hxs))
  subst hx
  obtain ⟨g, cap, rfl, hg, hc, hcell⟩ := own_texts hown (by decide)
  have c0 : w1.cell? ⟨g, 0, none⟩ = some (.string ⟨#[97, 98]⟩) := hcell 0 _ rfl
  clear hcell hown hxs hf
  have HB := Lib.hid hB
  have sz := hB.size
  clear hB
  by_cases h0 : n < 0
  · go_wp2
    go_ret
    exact ⟨rfl, HB.out⟩
  by_cases h1 : 2000 < n
  · go_wp2
    go_ret
    exact ⟨rfl, HB.out⟩
  obtain ⟨m, rfl⟩ := Int.eq_ofNat_of_zero_le (show 0 ≤ n by omega)
  have hm : m ≤ 2000 := by omega
  clear h1 h0
  go_wp2_with (at_make; refine wpList_make_full _ rfl _ _ 24 rfl w1.heap.size 5 i0 (.int .u8 0) 1 Try.underlying24 hi hz0 hz1 _ _ _ _ m rfl rfl rfl rfl ?b2 ?b3 (Nat.le_refl _) ?_)
  case b2 => rw [hz2]; omega
  case b3 => unfold maxLen; omega
  intro w2 hown hgrow
  rw [made_bytes] at hown
  have hB2 : Below w.heap.size w w2 := HB.out.grown hgrow HB.out.size (fun k h => by cases h)
  have HB2 := Lib.hid hB2
  have HO := Lib.hid hown
  have sz2 := hB2.size
  clear c0 hB2 hown hgrow HB
  go_wp2
  go_loopw [5] (fun i wr => ∃ (k : Nat) (l : List UInt8), k ≤ m ∧ i = .int .i64 k ∧ l.length = m ∧ wr.ownsRow w1.heap.size 5 1 (.slice (some ⟨w1.heap.size, 0, none⟩) m m) m (Lib.byteCells l) ∧ Below w.heap.size w wr) (fun i _ => m - (intOf i).toNat)
  case atStart => exact ⟨0, _, Nat.zero_le _, rfl, List.length_replicate, HO.out, HB2.out⟩
  case round =>
    clear HO HB2
    obtain ⟨k, l, hk, rfl, hl, hown, hB⟩ := hrel
    have HO := Lib.hid hown
    by_cases hlt : k < m
    · have c1 : wr.cell? ⟨w1.heap.size, k, none⟩ = some (.int .u8 (l[k].toNat : Int)) := by
        rw [hown.cellAt k (by omega)]; simp [Lib.byteCells, hl, hlt]
      have f1 := hown.frozenAt k
      have st := hown.stored k (.int .u8 120)
      have S1 := Lib.hid st.1
      have S2 := Lib.hid (hB.grown st.2 hB.size (fun j h => by cases h; omega))
      clear st hown
      go_wp2
      go_roundw
      case rel =>
        refine ⟨k + 1, l.set k 120, by omega, by go_num, by rw [List.length_set, hl], ?_, S2.out⟩
        have e : Lib.byteCells (l.set k 120) = (Lib.byteCells l).set k (.int .u8 120) := by simp [Lib.byteCells, List.map_set]
        rw [e]
        exact S1.out
      case measure => simp [intOf]; omega
    · have hcv : ∀ j (hj : j < l.length), wr.cell? ((⟨w1.heap.size, 0, none⟩ : Addr).add j) = some (.int .u8 (l[j].toNat : Int)) := by
        intro j hj
        have e : (⟨w1.heap.size, 0, none⟩ : Addr).add j = ⟨w1.heap.size, j, none⟩ := by unfold Addr.add; split <;> simp_all
        rw [e, hown.cellAt j (by omega)]
        simp [Lib.byteCells, hj]
      have cv := run_convert_bytes_back wr 24 9 5 ⟨w1.heap.size, 0, none⟩ m l Try.underlying24 Try.underlying5 Try.underlying9 hcv
      rw [hl] at cv
      have HB3 := Lib.hid hB
      have HL := Lib.hid hl
      clear hown hB hl hcv HO
      go_wp2_with fail
      refine (fold_any ⟨l.toArray⟩ _ (by show l.toArray.size ≤ _; have := HL.out; simp; omega)).mono ?_
      rintro e w3 ⟨hB3, v, ys, rfl, hown3, hys⟩
      have hf := fold_len (⟨l.toArray⟩ : ByteArray).data.toList
      rw [show (⟨l.toArray⟩ : ByteArray).data.toList = l from rfl] at hf hown3
      have hl3 := HL.out
      rw [hl3] at hf
      have HB4 := Lib.hid (HB3.out.trans (hB3.mono HB3.out.size))
      obtain ⟨q, hq⟩ : ∃ q, q = (fold l).length := ⟨_, rfl⟩
      rw [← hq] at hf hown3
      have hq0 : 0 < q := by omega
      obtain ⟨g2, cap2, rfl, hg2, hc2, _⟩ := own_texts hown3 hq0
      clear hown3 hys hB3 HB3 HL hl3 hq cv
      have HQ := Lib.hid hf
      clear hf
      go_wp2
      go_loop [7, 8] (fun a b => ∃ j : Nat, a = .int .i64 (1 + j : Nat) ∧ b = .int .i64 (40 + 39 * j : Nat) ∧ (j = 0 ∨ 1 + 39 * j < m)) (fun _ b => 2000 - (intOf b).toNat)
      case atStart => exact ⟨0, rfl, rfl, Or.inl rfl⟩
      case round =>
        obtain ⟨j, rfl, rfl, hj⟩ := hrel
        have j1 : j ≤ 2000 := by omega
        by_cases hjm : 40 + 39 * j < m
        · go_wp2
          go_round
          case rel => exact ⟨j + 1, by go_num, by go_num, Or.inr (by omega)⟩
          case measure => simp [intOf]; omega
        · have eq : q = 1 + j := by rw [HQ.out]; omega
          have HE := Lib.hid eq
          clear eq
          go_wp2
          go_ret
          exact ⟨ret_bool (by rw [HE.out]; simp), HB4.out⟩

set_option maxRecDepth 100000 in
theorem lifted (os : Os) (started : os.Started) (H : Type) (enc : TypeId × Value → H) :
    ReturnsInHanded {} Try.checked os 3 .any (Rows.lineLongSpec.pre6 enc Try.prog Try.f3 Rows.lineLongRow.domain false) (Rows.lineLongSpec.post enc Try.prog Try.f3 false true false false) := by
  refine returnsInHanded_of_change (C := Try.checked) own started (by kernel_rfl) Try.func3
    (ChangeSpec.witness6 (enc := enc) (C := Try.checked) false ⟨#[], #[.int .i64 0], []⟩ 8 (by kernel_rfl) (by kernel_rfl) (by kernel_rfl) (by kernel_rfl)) ?_
  intro W base args ds gs before hval0 hW _ _
  have hval : ∀ (j : Nat) t v, Try.f3.params[j]? = some t → args[j]? = some v → Value.okWide Try.prog W .any base t v := hval0
  have hW' := hW
  obtain ⟨p, q, hA0, hV, rfl, hfz, hnd⟩ := hW
  have hA : DataW.TrodAll enc Try.prog W 0 (fun _ => true) true Try.f3.params.toList args.toList ds p := hA0
  rw [Try.params3] at hA hval
  obtain ⟨v0, vs0, d0, ds0, p0, q0, hargs, rfl, rfl, h0, r0⟩ := trodAll_cons hA
  obtain ⟨rfl, rfl, rfl⟩ := trodAll_nil r0
  obtain rfl : args = #[v0] := by cases args; simp_all
  obtain ⟨rfl, rfl⟩ := trodVars_none hV
  obtain ⟨a0, rfl, rfl, rfl, z0⟩ := open_int Try.underlying3 (hval 0 3 v0 rfl rfl) h0
  clear hA0 hval0
  simp only [List.append_nil] at hW'
  refine (walk a0 W).mono fun e W' ⟨he, hb⟩ => ?_
  subst he
  refine ⟨_, rfl, _, _, _, [], [], [], hW', ?_, ?_, ?_, hb.frame _, fun h => by cases h⟩
  · exact trodAll_mk1 (shut_bool Try.underlying4 true)
  · exact trodAll_cons_mk (shut_int Try.underlying3 z0) trodAll_mk0
  · rfl

theorem over : Rows.lineLongRow.holds Try.pinned (OpenSpec.ofChange Rows.lineLongSpec) :=
  OpenClaim.holds_of_wide 3 Try.f3 rfl rfl rfl rfl rfl rfl rfl ⟨rfl, rfl, rfl, rfl, rfl⟩ rfl rfl rfl rfl rfl (by kernel_rfl) Try.func3 (by kernel_rfl)
    (of_decide_eq_true (by kernel_rfl)) (by unfold Func.isWrapper; first | (rw [if_pos (by decide +kernel)]; kernel_rfl) | (rw [if_neg (by decide +kernel)]; exact ⟨rfl, rfl⟩))
    (fun os started H enc _ => lifted os started H enc)
end Go.Proofs.Ytoafdacgekmomaf.lineLong
namespace Go.Proofs.Ytoafdacgekmomaf
theorem lineLong_holds : Rows.LineLongSaid := lineLong.over
#print axioms lineLong_holds
end Go.Proofs.Ytoafdacgekmomaf
