/-
  What is proved here: package clock's texts are read as they were written (contracts over the translation, out of the functions' own); the tables are asked as premises.
-/
import Derived.Test.YtpplfcfhjpfckaaGreatDoorQY
namespace Go.Proofs.YtpplfcfhjpfckaaGreatDoor
open Go.RowKit Cal Txt

/-- What a long law carries from call to call. -/
def KeepC (w W : World) : Prop := Tab W ∧ Pow W ∧ Uni W ∧ Below w.heap.size w W
theorem KeepC.start {w : World} (hT : Tab w) (hP : Pow w) (hU : Uni w) : KeepC w w := ⟨hT, hP, hU, Below.refl _ _⟩
theorem KeepC.on {w W W' : World} (h : KeepC w W) (b : Below W.heap.size W W') : KeepC w W' := ⟨h.1.below b, h.2.1.below b, h.2.2.1.below b, h.2.2.2.trans (b.mono h.2.2.2.size)⟩
theorem KeepC.alloc {w W : World} (h : KeepC w W) (o : Obj) : KeepC w (W.alloc o) := h.on ((Below.refl _ _).alloc (Nat.le_refl _) _)

theorem data_mk (l : List UInt8) : (⟨l.toArray⟩ : ByteArray).data.toList = l := rfl
theorem mk_data (s : ByteArray) : (⟨s.data.toList.toArray⟩ : ByteArray) = s := rfl
theorem parse_fact (w : World) (hT : Tab w) :
    Calls Tryz.prog 69 #[.string ⟨#[50, 48, 50, 54, 45, 49, 49, 45, 49, 53, 32, 49, 54, 58, 53, 57]⟩] w fun e w' => e = .returned (.tuple #[.int .i64 66729179, .nilIface]) ∧ Below w.heap.size w w' := by
  have hf : frm (⟨#[50, 48, 50, 54, 45, 49, 49, 45, 49, 53, 32, 49, 54, 58, 53, 57]⟩ : ByteArray).data.toList = true := by decide +kernel
  have hr : raw (⟨#[50, 48, 50, 54, 45, 49, 49, 45, 49, 53, 32, 49, 54, 58, 53, 57]⟩ : ByteArray).data.toList = 66729179 := by decide +kernel
  have hg : good (⟨#[50, 48, 50, 54, 45, 49, 49, 45, 49, 53, 32, 49, 54, 58, 53, 57]⟩ : ByteArray).data.toList := by
    unfold good okD
    refine ⟨⟨?_, ?_, ?_, ?_, ?_, ?_⟩, ?_, ?_, ?_⟩ <;> decide +kernel
  have := parse_yes _ w hT hf hg
  rw [hr] at this
  exact this
theorem span_fact (w : World) (hU : Uni w) :
    Calls Tryz.prog 70 #[.string ⟨#[45, 49, 100, 50, 104]⟩] w fun e w' => e = .returned (.tuple #[.int .i64 (-1560), .nilIface]) ∧ Below w.heap.size w w' := by
  have hr : spn (⟨#[45, 49, 100, 50, 104]⟩ : ByteArray).data.toList = (-1560, 0) := by decide +kernel
  have := span_any ⟨#[45, 49, 100, 50, 104]⟩ w (by decide) hU
  rw [hr] at this
  exact this
theorem parse_txt (t : Int) (w : World) (hT : Tab w) (h1 : 1 ≤ t) (h2 : t ≤ 157785119) :
    Calls Tryz.prog 69 #[.string ⟨(txt t).toArray⟩] w fun e w' => e = .returned (.tuple #[.int .i64 t, .nilIface]) ∧ Below w.heap.size w w' := by
  obtain ⟨a, b, c⟩ := txt_read (t := t) h1 (by show t < 157785120; omega)
  have := parse_yes ⟨(txt t).toArray⟩ w hT (by rw [data_mk]; exact a) (by rw [data_mk]; exact b)
  rw [data_mk, c] at this
  exact this
theorem raw_bd {l : List UInt8} (h : good l) : 1 ≤ raw l ∧ raw l ≤ 157785119 := by
  have a := raw_lt h
  have b := h.2.2.2
  unfold last at a
  exact ⟨b, by omega⟩
theorem print_raw (s : ByteArray) (w : World) (hT : Tab w) (hP : Pow w) (hf : frm s.data.toList = true) (hg : good s.data.toList) :
    Calls Tryz.prog 84 #[.int .i64 (raw s.data.toList)] w fun e w' => e = .returned (.tuple #[.string s, .nilIface]) ∧ Below w.heap.size w w' := by
  have := print_yes (raw s.data.toList) w hT hP (raw_bd hg).1 (raw_bd hg).2
  rw [txt_back hf hg, mk_data] at this
  exact this
theorem parse_err (s : ByteArray) (w : World) (hT : Tab w) (h : ¬ (frm s.data.toList = true ∧ good s.data.toList)) :
    Calls Tryz.prog 69 #[.string s] w fun e w' => ∃ k : Int, e = .returned (.tuple #[.int .i64 0, .iface 45 (.int .i64 k)]) ∧ Below w.heap.size w w' := by
  rcases hf : frm s.data.toList with _ | _
  · exact (parse_bad s w hf).mono fun e w' h => ⟨2, h⟩
  · by_cases hm : nm s.data.toList 14 16 ≤ 59
    · exact (parse_none s w hT hf hm (fun g => h ⟨hf, g⟩)).mono fun e w' h => ⟨1, h⟩
    · exact (parse_min s w hT hf hm).mono fun e w' h => ⟨1, h⟩
theorem span_spt (n : Int) (w : World) (hU : Uni w) (h1 : -1000000 ≤ n) (h2 : n ≤ 1000000) (hl : (spt n).length ≤ 40) :
    Calls Tryz.prog 70 #[.string ⟨(spt n).toArray⟩] w fun e w' => e = .returned (.tuple #[.int .i64 n, .nilIface]) ∧ Below w.heap.size w w' := by
  have := span_any ⟨(spt n).toArray⟩ w (by have e : (⟨(spt n).toArray⟩ : ByteArray).size = (spt n).length := rfl; unfold maxLen; omega) hU
  rw [data_mk, spt_read n h1 h2] at this
  exact this
theorem spt_len (n : Int) (h1 : -1000000 ≤ n) (h2 : n ≤ 1000000) : (spt n).length ≤ 40 := by
  have key : ∀ (k : Nat) (c : UInt8), k ≤ 1000000 → (pc k c).length ≤ 10 := by
    intro k c hk
    rcases Nat.eq_zero_or_pos k with rfl | g
    · simp [pc_zero]
    · rw [pc_pos g]; have := dec_len k 8 (by omega); simp; omega
  unfold spt
  split
  · simp
  · have k1 := key (n.natAbs / 1440) 100 (by omega)
    have k2 := key (n.natAbs % 1440 / 60) 104 (by omega)
    have k3 := key (n.natAbs % 60) 109 (by omega)
    unfold prts
    simp only [List.length_append]
    split <;> simp <;> omega
theorem span_nil (u : ByteArray) (w : World) (hs : u.size ≤ maxLen) (hU : Uni w) (h : (spn u.data.toList).2 = 0) :
    Calls Tryz.prog 70 #[.string u] w fun e w' => e = .returned (.tuple #[.int .i64 (spn u.data.toList).1, .nilIface]) ∧ Below w.heap.size w w' := by
  have := span_any u w hs hU
  unfold fault at this
  rw [if_pos h] at this
  exact this
theorem span_err (u : ByteArray) (w : World) (hs : u.size ≤ maxLen) (hU : Uni w) (h : ¬ (spn u.data.toList).2 = 0) :
    Calls Tryz.prog 70 #[.string u] w fun e w' => e = .returned (.tuple #[.int .i64 (spn u.data.toList).1, .iface 45 (.int .i64 (spn u.data.toList).2)]) ∧ Below w.heap.size w w' := by
  have := span_any u w hs hU
  unfold fault at this
  rw [if_neg h] at this
  exact this
theorem spn_bd (u : ByteArray) (h : (spn u.data.toList).2 = 0) : spt (spn u.data.toList).1 = u.data.toList ∧ -1000000 ≤ (spn u.data.toList).1 ∧ (spn u.data.toList).1 ≤ 1000000 :=
  spn_back (n := (spn u.data.toList).1) (by rw [← h])
theorem pspan_spn (u : ByteArray) (w : World) (hP : Pow w) (hU : Uni w) (h : (spn u.data.toList).2 = 0) :
    Calls Tryz.prog 85 #[.int .i64 (spn u.data.toList).1] w fun e w' => e = .returned (.tuple #[.string u, .nilIface]) ∧ Below w.heap.size w w' := by
  obtain ⟨a, b, c⟩ := spn_bd u h
  have := pspan_yes (spn u.data.toList).1 w hP hU b c
  rw [a, mk_data] at this
  exact this
/-- The parts of a time are it. -/
theorem time_split (t : Int) (w : World) (hT : Tab w) (h1 : 1 ≤ t) (h2 : t ≤ 157785119) :
    Calls Tryz.prog 96 #[.agg #[.int .i64 (yr (t / 1440 + 1)), .int .i64 (mo (t / 1440 + 1)), .int .i64 (da (t / 1440 + 1))], .int .i64 (t % 1440)] w fun e w' => e = .returned (.tuple #[.int .i64 t, .nilIface]) ∧ Below w.heap.size w w' := by
  have ok := date_ok (n := t / 1440 + 1) (by omega) (by omega)
  have nn : num (yr (t / 1440 + 1)) (mo (t / 1440 + 1)) (da (t / 1440 + 1)) = t / 1440 + 1 := date_num
  have := time_yes _ _ _ (t % 1440) w hT ok (by omega) (by omega) (by rw [nn]; omega)
  rw [nn, show (t / 1440 + 1 - 1) * 1440 + t % 1440 = t by omega] at this
  exact this
end Go.Proofs.YtpplfcfhjpfckaaGreatDoor
