/-
  What is proved here: what slices.IndexFunc answers at stretches, for any closure that only reads, and slices.DeleteFunc with the closure of busy.merge (contracts over the translation).
-/
import Derived.Test.YtiapdldeknijaaaDoorBzChk
import Derived.Shelf.Abstract
import Derived.BigQuiet
import Derived.Lib.QuietBelow
namespace Go.Proofs.YtiapdldeknijaaaDoor.Bz
open Go.RowKit

theorem any_tk (p : Bz → Bool) (l : List Bz) (k : Nat) (h : k < l.length) (ha : (l.take k).any p = false) (hp : p (l.getD k (0, 0)) = false) : (l.take (k + 1)).any p = false := by
  rw [List.take_succ_eq_append_getElem h, List.any_append, ha, List.any_cons, List.any_nil]
  rw [List.getD_eq_getElem?_getD, List.getElem?_eq_getElem h] at hp
  simpa using hp
/-- Where the first is of which something is told. -/
def IdxA (l : List Bz) (p : Bz → Bool) (w : World) (e : Ending) (w' : World) : Prop := Below w.heap.size w w' ∧
  ((e = .returned (.int .i64 (-1)) ∧ l.any p = false) ∨ ∃ k : Nat, e = .returned (.int .i64 k) ∧ k < l.length ∧ (l.take k).any p = false ∧ p (l.getD k (0, 0)) = true)
set_option maxRecDepth 100000 in
set_option maxHeartbeats 1000000 in
theorem idxM (p : Bz → Bool) (l : List Bz) (v : Value) (w : World) (hC : ∀ c ∈ l, ∀ W, Below w.heap.size w W → Calls Tryd.prog 27 #[agB c] W fun e w' => e = .returned (.bool (p c)) ∧ Below W.heap.size W w') (hh : Rb w v l) (hl : l.length ≤ 1000000) :
    Calls Tryd.prog 35 #[v, .func (.func 27) #[] #[]] w (IdxA l p w) := by
  have HH := Lib.hid hh
  have HC := Lib.hid hC
  obtain ⟨a, cap, rfl, _⟩ := hh
  clear hC
  have eg : ∀ args w, (callFunc 27 args).run Tryd.prog w = .ok (.enter 27 args) w := enters_of Tryd.func27 (by kernel_rfl) rfl
  go_enter Tryd.func35, Tryd.ntmps35
  go_wp2
  go_loopw [8] (fun i wr => ∃ k : Nat, k ≤ l.length ∧ i = .int .i64 k ∧ Hid ((l.take k).any p = false) ∧ Below w.heap.size w wr) (fun i _ => l.length - (intOf i).toNat)
  case atStart => exact ⟨0, Nat.zero_le _, rfl, Lib.hid rfl, Below.refl _ _⟩
  case round =>
    obtain ⟨k, hk, rfl, HF, hB⟩ := hrel
    have HB := Lib.hid hB
    by_cases hlt : k < l.length
    · obtain ⟨b, off, rfl, _, k1, k2⟩ := rb_at (HH.out.on hB) hlt
      have bl := cell_in k1
      have K := Lib.hid (HC.out (l.getD k (0, 0)) (by rw [List.getD_eq_getElem?_getD, List.getElem?_eq_getElem hlt]; exact List.getElem_mem _) wr hB)
      obtain ⟨X, hX⟩ : ∃ X, X = l.getD k (0, 0) := ⟨_, rfl⟩
      rw [← hX] at k1 k2 K
      have HX := Lib.hid hX
      clear hX hB
      go_wp2_with fail
      refine K.out.mono ?_
      rintro e w2 ⟨rfl, hb⟩
      have HB2 := Lib.hid (HB.out.trans (hb.mono HB.out.size))
      clear hb K k1 k2 bl
      rcases hp : p X with _ | _
      · have N1 := Lib.hid (any_tk p l k hlt HF.out (by rw [← HX.out]; exact hp))
        go_wp2
        go_roundw
        case rel => exact ⟨k + 1, by omega, by go_num, N1, HB2.out⟩
        case measure => simp [intOf]; omega
      · have N1 : Hid (p (l.getD k (0, 0)) = true) := Lib.hid (by rw [← HX.out]; exact hp)
        go_wp2
        go_ret
        exact ⟨HB2.out, Or.inr ⟨k, rfl, hlt, HF.out, N1.out⟩⟩
    · have N1 : Hid (l.any p = false) := Lib.hid (by have := HF.out; rwa [List.take_of_length_le (by omega)] at this)
      go_wp2
      go_ret
      exact ⟨HB.out, Or.inl ⟨rfl, N1.out⟩⟩
/-- How far the deleting has come. -/
def DI (l : List Bz) (p : Bz → Bool) (j i : Nat) (d : List Bz) : Prop :=
  d.length = l.length ∧ i < j ∧ j ≤ l.length ∧ d.take i = (l.take j).filter (fun x => !p x) ∧ ∀ t, j ≤ t → d.getD t (0, 0) = l.getD t (0, 0)
theorem DI.begin {l : List Bz} {p : Bz → Bool} {k : Nat} (hk : k < l.length) (ha : (l.take k).any p = false) (hp : p (l.getD k (0, 0)) = true) : DI l p (k + 1) k l := by
  refine ⟨rfl, by omega, by omega, ?_, fun t _ => rfl⟩
  rw [List.take_succ_eq_append_getElem hk, List.filter_append]
  rw [List.getD_eq_getElem?_getD, List.getElem?_eq_getElem hk] at hp
  have hp' : p l[k] = true := hp
  rw [List.filter_eq_self.2 (fun x hx => by have := List.any_eq_false.1 ha x hx; simpa using this)]
  simp [hp']
theorem DI.skip {l : List Bz} {p : Bz → Bool} {j i : Nat} {d : List Bz} (h : DI l p j i d) (hj : j < l.length) (hp : p (l.getD j (0, 0)) = true) : DI l p (j + 1) i d := by
  obtain ⟨a, b, c, e, f⟩ := h
  refine ⟨a, by omega, by omega, ?_, fun t ht => f t (by omega)⟩
  rw [List.getD_eq_getElem?_getD, List.getElem?_eq_getElem hj] at hp
  have hp' : p l[j] = true := hp
  rw [List.take_succ_eq_append_getElem hj, List.filter_append, ← e]
  simp [hp']
theorem DI.keep {l : List Bz} {p : Bz → Bool} {j i : Nat} {d : List Bz} (h : DI l p j i d) (hj : j < l.length) (hp : p (l.getD j (0, 0)) = false) : DI l p (j + 1) (i + 1) (d.set i (l.getD j (0, 0))) := by
  obtain ⟨a, b, c, e, f⟩ := h
  refine ⟨by simpa using a, by omega, by omega, ?_, fun t ht => ?_⟩
  · rw [List.take_succ_eq_append_getElem (l := l) hj, List.filter_append, ← e]
    rw [List.getD_eq_getElem?_getD, List.getElem?_eq_getElem hj] at hp ⊢
    have hp' : p l[j] = false := hp
    rw [List.take_succ_eq_append_getElem (by rw [List.length_set]; omega), List.take_set_of_le (Nat.le_refl _)]
    simp [hp']
  · rw [List.getD_eq_getElem?_getD, List.getElem?_set_ne (by omega), ← List.getD_eq_getElem?_getD]
    exact f t (by omega)
theorem DI.done {l : List Bz} {p : Bz → Bool} {i : Nat} {d : List Bz} (h : DI l p l.length i d) : d.take i = l.filter (fun x => !p x) := by
  have := h.2.2.2.1
  rwa [List.take_length] at this
set_option maxRecDepth 100000 in
set_option maxHeartbeats 4000000 in
theorem delM (p : Bz → Bool) (l : List Bz) (n0 : Nat) (v : Value) (w : World) (hC : ∀ c ∈ l, ∀ W, Below n0 w W → Calls Tryd.prog 27 #[agB c] W fun e w' => e = .returned (.bool (p c)) ∧ Below W.heap.size W w') (hh : Ob w n0 v l) (hn : n0 ≤ w.heap.size) (hl : l.length ≤ 1000000) :
    Calls Tryd.prog 25 #[v, .func (.func 27) #[] #[]] w fun e w' => ∃ u, e = .returned u ∧ Ob w' n0 u (l.filter (fun x => !p x)) ∧ Below n0 w w' := by
  have K := Lib.hid (idxM p l v w (fun c hc W hW => hC c hc W (hW.mono hn)) hh.rb hl)
  have HH := Lib.hid hh
  have HC := Lib.hid hC
  have HN := Lib.hid hn
  have eg : ∀ args w, (callFunc 27 args).run Tryd.prog w = .ok (.enter 27 args) w := enters_of Tryd.func27 (by kernel_rfl) rfl
  have FO : ∃ a cap, v = .slice a l.length cap := by
    rcases hh.open with ⟨rfl, rfl⟩ | ⟨g, cap, rfl⟩
    · exact ⟨none, 0, rfl⟩
    · exact ⟨_, cap, rfl⟩
  obtain ⟨a, cap, rfl⟩ := FO
  clear hC hh hn
  go_enter Tryd.func25, Tryd.ntmps25
  go_wp2_with fail
  refine K.out.mono ?_
  rintro e w1 ⟨hb1, hx⟩
  have B1 := Lib.hid hb1
  clear K hb1
  rcases hx with ⟨rfl, ha⟩ | ⟨k, rfl, hk, ha, hp⟩
  · have N : Hid (l.filter (fun x => !p x) = l) := Lib.hid (List.filter_eq_self.2 (fun x hx => by have := List.any_eq_false.1 ha x hx; simpa using this))
    clear ha
    go_wp2
    go_ret
    exact ⟨_, rfl, by rw [N.out]; exact ow_below HH.out B1.out, B1.out.mono HN.out⟩
  · have D0 := Lib.hid (DI.begin hk ha hp)
    have nk : ((k : Int) == -1) = false := by simp
    clear ha hp
    obtain ⟨g, rfl⟩ : ∃ g, a = some ⟨g, 0, none⟩ := by
      rcases HH.out.open with ⟨_, h0⟩ | ⟨g, c2, e2⟩
      · rw [h0] at hk; simp at hk
      · simp only [Value.slice.injEq] at e2
        exact ⟨g, e2.1⟩
    have GN := Lib.hid HH.out.blk.2.1
    have gn := GN.out
    have cl := HH.out.blk.2.2.1
    have O1 := Lib.hid (ow_below HH.out B1.out)
    go_wp2_with fail
    go_loopw [5, 6, 7] (fun iv jv _ wr => ∃ (i j : Nat) (d : List Bz), iv = .int .i64 i ∧ jv = .int .i64 j ∧ DI l p j i d ∧ Ob wr n0 (.slice (some ⟨g, 0, none⟩) l.length cap) d ∧ Below n0 w wr) (fun _ jv _ _ => l.length - (intOf jv).toNat)
    case atStart => exact ⟨k, k + 1, l, rfl, by go_num, D0.out, O1.out, B1.out.mono HN.out⟩
    case round =>
      obtain ⟨i, j, d, rfl, rfl, hD, hh, hB⟩ := hrel
      have ij := hD.2.1
      have jl := hD.2.2.1
      have dl := hD.1
      have HD := Lib.hid hD
      have HHd := Lib.hid hh
      have HB := Lib.hid hB
      have HNr := Lib.hid (Nat.le_trans HN.out hB.size)
      clear hD hh hB D0 B1 O1
      by_cases hlt : j < l.length
      · obtain ⟨k1, k2⟩ := HHd.out.cell (i := j) (by omega)
        rw [HD.out.2.2.2.2 j (Nat.le_refl _)] at k1 k2
        have bw := cell_in k1
        have XM : Hid (l.getD j (0, 0) ∈ l) := Lib.hid (by rw [List.getD_eq_getElem?_getD, List.getElem?_eq_getElem hlt]; exact List.getElem_mem _)
        obtain ⟨X, hX⟩ : ∃ X, X = l.getD j (0, 0) := ⟨_, rfl⟩
        rw [← hX] at k1 k2 XM
        have HX := Lib.hid hX
        have T3 := BBx.new wr X 26
        have b3 := below_one wr (.cells #[.int .i64 X.1, .int .i64 X.2] 26)
        obtain ⟨W3, hW3⟩ : ∃ W3, W3 = wr.alloc (.cells #[.int .i64 X.1, .int .i64 X.2] 26) := ⟨_, rfl⟩
        rw [← hW3] at T3 b3
        have HW3 := Lib.hid hW3
        have HT3 := Lib.hid T3
        have B3 := Lib.hid b3
        have K := Lib.hid (HC.out X XM.out W3 (HB.out.trans (b3.mono HNr.out)))
        clear hX hW3 T3 b3
        go_upto_region 8 with fail
        rw [← HW3.out]
        clear HW3 k1 k2
        obtain ⟨t0, t1⟩ := HT3.out
        have tl := cell_in t0
        go_wp2_with fail
        clear t0 t1 tl
        refine K.out.mono ?_
        rintro e w4 ⟨rfl, hb⟩
        have B4 := Lib.hid (B3.out.trans (hb.mono B3.out.size))
        obtain ⟨t0, t1⟩ := HT3.out.on hb
        have tl := cell_in t0
        clear hb K B3 HT3
        have H4 : Hid (Ob w4 n0 (.slice (some ⟨g, 0, none⟩) l.length cap) d) := Lib.hid (ow_below HHd.out B4.out)
        have A4 := Lib.hid (HB.out.trans (B4.out.mono HNr.out))
        rcases hp : p X with _ | _
        · have N1 := Lib.hid (HD.out.keep hlt (by rw [← HX.out]; exact hp))
          rw [← HX.out] at N1
          have SH := Lib.hid (H4.out.put (i := i) (by omega) X)
          have SA := Lib.hid (A4.out.trans (grown_set g (encB X) (i * 2) w4 n0 GN.out (Nat.le_trans HNr.out B4.out.size)))
          have TH := Lib.hid (H4.out.there (o := i * 2) (m := 2) (by omega))
          go_wp2_with (refine bz_store ?s1 (.tmp 33) (.tmp 32) ?s2 ?s9 g (i * 2) X ?s3 ?s4 ?s6 ?s5; (case s1 => rfl); (case s2 => rfl); (case s9 => rfl); (case s3 => rfl); (case s4 => rfl); (case s6 => exact TH.out))
          go_roundw
          case rel => exact ⟨i + 1, j + 1, d.set i X, by go_num, by go_num, N1.out, SH.out, SA.out⟩
          case measure => simp [intOf]; omega
        · have N1 := Lib.hid (HD.out.skip hlt (by rw [← HX.out]; exact hp))
          go_wp2
          go_roundw
          case rel => exact ⟨i, j + 1, d, rfl, by go_num, N1.out, H4.out, A4.out⟩
          case measure => simp [intOf]; omega
      · obtain rfl : j = l.length := by omega
        have hcl : ∀ ty, (Builtin.clear_ #[22] ty #[.slice (some ⟨g, i * 2, none⟩) (l.length - i) (cap - i)]).run Tryd.prog wr = .ok (.tuple #[]) (wr.setCells g (i * 2) (zrs (l.length - i))) :=
          fun ty => run_clearB wr ty g (i * 2) _ _ (by omega) (HHd.out.there (by omega))
        have S := HHd.out.cut (i := i) (by omega) (zrs (l.length - i)) (by rw [zrs_len]; omega)
        have N := HD.out.done
        rw [N] at S
        have SH := Lib.hid S
        have SA := Lib.hid (HB.out.trans (grown_set g (zrs (l.length - i)) (i * 2) wr n0 GN.out HNr.out))
        clear S N
        go_wp2
        go_ret
        exact ⟨_, rfl, SH.out, SA.out⟩
end Go.Proofs.YtiapdldeknijaaaDoor.Bz
