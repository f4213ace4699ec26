/-
  What is proved here: what the document's ReadDate answers of any text, against the day of a text (a contract over the translation).
-/
import Derived.Test.YtoafdacgekmomabGreatDoorQM
import Derived.Test.YtoafdacgekmomabGreatDoorQB
namespace Go.Proofs.YtoafdacgekmomabGreatDoor
open Go.RowKit Cal Txt

theorem dfB_len {l : List UInt8} (h : l.length ≠ 10) : dfB l = false := by
  rcases e : dfB l with _ | _
  · rfl
  · unfold dfB at e
    have := frm_len e
    rw [List.length_append] at this
    have m : mid.length = 6 := rfl
    omega
theorem dfB_dfm {l : List UInt8} (h : l.length = 10) : dfB l = true ↔ dfm l := by
  have hl : (l ++ mid).length = 16 := by rw [List.length_append, h]; rfl
  unfold dfB
  rw [frm_split hl, ← ten_dfm (l ++ mid), show (l ++ mid).take 10 = l by rw [← h]; exact List.take_left]
  have g : ∀ k, 10 ≤ k → (l ++ mid).getD k 0 = mid.getD (k - 10) 0 := fun k hk => by
    rw [List.getD_eq_getElem?_getD, List.getElem?_append_right (by omega), ← List.getD_eq_getElem?_getD, h]
  have hd : ∀ a, 10 ≤ a → (l ++ mid).drop a = mid.drop (a - 10) := fun a ha => by
    rw [List.drop_append, List.drop_of_length_le (by omega : l.length ≤ a), h, List.nil_append]
  have d1 : dgs (l ++ mid) 11 13 = true := by unfold dgs; rw [hd 11 (by omega)]; decide
  have d2 : dgs (l ++ mid) 14 16 = true := by unfold dgs; rw [hd 14 (by omega)]; decide
  have g1 : (l ++ mid).getD 10 0 = 32 := by rw [g 10 (by omega)]; rfl
  have g2 : (l ++ mid).getD 13 0 = 58 := by rw [g 13 (by omega)]; rfl
  exact ⟨fun k => k.2.2.1, fun k => ⟨g1, g2, k, d1, d2⟩⟩
/-- What is answered of a day that was read, or not. -/
def DayA (o : Option Int) (e : Ending) : Prop :=
  ∃ (d : Int) (b : Bool), e = .returned (.tuple #[.int .i64 d, .bool b]) ∧ ((o = none ∧ (b = false ∨ (b = true ∧ (d != 0) = false))) ∨ (o = some d ∧ b = true ∧ (d != 0) = true))
set_option maxRecDepth 100000 in
set_option maxHeartbeats 2000000 in
theorem readDate_any (s : ByteArray) (w : World) :
    Calls Tryz.prog 29 #[.string s] w fun e w' => DayA (dr s.data.toList) e ∧ Below w.heap.size w w' := by
  have LS : s.data.toList.length = s.size := rfl
  by_cases hz : s.size = 10
  · by_cases hf : dfm s.data.toList
    · obtain ⟨v, v1, v2, v3, v4, hO⟩ := refOf_ex (nm s.data.toList 0 4 : Nat) (nm s.data.toList 5 7 : Nat) (nm s.data.toList 8 10 : Nat)
      refine (readDate_yes s v w hz hf hO).mono ?_
      rintro e w' ⟨rfl, hb⟩
      refine ⟨⟨v, true, rfl, ?_⟩, hb⟩
      have F := (dfB_dfm (by rw [LS]; exact hz)).2 hf
      unfold dr
      by_cases hk : okD (nm s.data.toList 0 4 : Nat) (nm s.data.toList 5 7 : Nat) (nm s.data.toList 8 10 : Nat)
      · have := v1 hk
        refine Or.inr ⟨?_, rfl, by simp; omega⟩
        rw [if_pos (by rw [F, okB_iff.2 hk]; rfl), this.1]
      · have := v2 hk
        refine Or.inl ⟨?_, Or.inr ⟨rfl, by rw [this]; rfl⟩⟩
        rw [if_neg (fun q => hk (okB_iff.1 (by rw [Bool.and_eq_true] at q; exact q.2)))]
    · refine (readDate_no s w hz hf).mono ?_
      rintro e w' ⟨⟨v, rfl⟩, hb⟩
      refine ⟨⟨v, false, rfl, Or.inl ⟨?_, Or.inl rfl⟩⟩, hb⟩
      unfold dr
      rw [if_neg (fun q => hf ((dfB_dfm (by rw [LS]; exact hz)).1 (by rw [Bool.and_eq_true] at q; exact q.1)))]
  · have hz2 : ((s.size : Int) != 10) = true := by rw [bne_iff_ne]; omega
    have N1 : Hid (dr s.data.toList = none) := Lib.hid (by
      unfold dr
      rw [dfB_len (by rw [LS]; exact hz)]; rfl)
    go_enter Tryz.func29, Tryz.ntmps29
    go_wp2
    go_ret2
    exact ⟨⟨0, false, rfl, Or.inl ⟨N1.out, Or.inl rfl⟩⟩, Below.refl _ _⟩
end Go.Proofs.YtoafdacgekmomabGreatDoor
