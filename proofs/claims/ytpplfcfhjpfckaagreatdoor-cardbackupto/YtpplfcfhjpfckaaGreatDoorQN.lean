/-
  What is proved here: what package card's read does at one kind of line (a contract over the translation).
  What is proved here: what package card's read does at one kind of line (a contract over the translation).
  What is proved here: what package card's read does at one kind of line (a contract over the translation).
  What is proved here: what package card's read does at one kind of line (a contract over the translation).
-/
import Derived.Test.YtpplfcfhjpfckaaGreatDoorQM
namespace Go.Proofs.YtpplfcfhjpfckaaGreatDoor
open Go.RowKit Go Cal Txt Ln Cb

set_option maxRecDepth 100000 in
set_option maxHeartbeats 1600000 in
theorem read_0 (e : Evt) (nx b n1 : Nat) (s : Evs) (S : Nat → Prop) (val : ByteArray) (w : World) (h : RdJ b n1 e nx s S w)  :
    Calls Tryz.prog 40 #[.pointer (some ⟨b, 0, none⟩), .string ⟨#[78, 65, 77, 69]⟩, .string val] w (RdA 0 e s nx b n1 S val.data.toList w) := by
  obtain ⟨p1, p2⟩ := h.put 0 (.string val) (e' := { e with name := val }) rfl ⟨rfl, rfl, rfl, rfl, rfl⟩
  have P1 := Lib.hid p1
  have P2 := Lib.hid p2
  have c0 := h.rb.cell 0 _ rfl
  have f0 := h.rb.fz 0
  have bl := h.rb.lt
  clear h p1 p2
  go_enter Tryz.func40, Tryz.ntmps40
  go_wp2
  go_ret
  exact Or.inl ⟨_, S, rfl, rfl, Gr.refl _ _, P2.out, s, P1.out, Or.inl ⟨rfl, rfl, rfl, rfl, rfl⟩⟩
end Go.Proofs.YtpplfcfhjpfckaaGreatDoor
namespace Go.Proofs.YtpplfcfhjpfckaaGreatDoor
open Go.RowKit Go Cal Txt Ln Cb

set_option maxRecDepth 100000 in
set_option maxHeartbeats 1600000 in
theorem read_1 (e : Evt) (nx b n1 : Nat) (s : Evs) (S : Nat → Prop) (val : ByteArray) (w : World) (h : RdJ b n1 e nx s S w) (hK : ∀ W, Below n1 w W → KeepK W) (hs : val.size ≤ 2000000) :
    Calls Tryz.prog 40 #[.pointer (some ⟨b, 0, none⟩), .string ⟨#[84, 69, 88, 84]⟩, .string val] w (RdA 1 e s nx b n1 S val.data.toList w) := by
  have K := Lib.hid (text_op val w (hK w (Below.refl _ _)).mrk hs)
  have H := Lib.hid h
  have bl := h.rb.lt
  clear h hK
  go_enter Tryz.func40, Tryz.ntmps40
  go_wp2_with fail
  refine K.out.mono ?_
  rintro x0 w1 ⟨hb, hx⟩
  have J1 := H.out.keep hb
  have c0 := J1.rb.cell 1 _ rfl
  have f0 := J1.rb.fz 1
  have bl1 := J1.rb.lt
  have HB := Lib.hid hb
  have HJ := Lib.hid J1
  clear hb J1 K bl
  rcases hx with ⟨t, ht, rfl⟩ | ⟨ht, t, j, rfl⟩
  · obtain ⟨p1, p2⟩ := HJ.out.put 1 (.string (tb t)) (e' := { e with text := tb t }) rfl ⟨rfl, rfl, rfl, rfl, rfl⟩
    have Z : Hid (RdA 1 e s nx b n1 S val.data.toList w (.returned (.bool true)) (w1.setCell ⟨b, 1, none⟩ (.string (tb t)))) := Lib.hid (Or.inl ⟨_, S, by rw [rd1, ht]; rfl, rfl, Gr.refl _ _, H.out.set HB.out 1 _, s, p1, Or.inl ⟨rfl, rfl, rfl, rfl, rfl⟩⟩)
    clear p1 p2 ht HJ H HB
    go_wp2
    go_ret
    exact Z.out
  · have Z : Hid (RdA 1 e s nx b n1 S val.data.toList w (.returned (.bool false)) (w1.setCell ⟨b, 1, none⟩ (.string (tb t)))) := Lib.hid (Or.inr ⟨by rw [rd1, ht]; rfl, rfl, H.out.set HB.out 1 _⟩)
    clear ht HJ H HB
    go_wp2
    go_ret
    exact Z.out
end Go.Proofs.YtpplfcfhjpfckaaGreatDoor
namespace Go.Proofs.YtpplfcfhjpfckaaGreatDoor
open Go.RowKit Go Cal Txt Ln Cb

set_option maxRecDepth 100000 in
set_option maxHeartbeats 1600000 in
theorem read_2 (e : Evt) (nx b n1 : Nat) (s : Evs) (S : Nat → Prop) (val : ByteArray) (w : World) (h : RdJ b n1 e nx s S w) (hK : ∀ W, Below n1 w W → KeepK W) :
    Calls Tryz.prog 40 #[.pointer (some ⟨b, 0, none⟩), .string ⟨#[83, 84, 65, 82, 84]⟩, .string val] w (RdA 2 e s nx b n1 S val.data.toList w) := by
  have K := Lib.hid (time_op val w (hK w (Below.refl _ _)).kp.tab)
  have H := Lib.hid h
  have bl := h.rb.lt
  clear h hK
  go_enter Tryz.func40, Tryz.ntmps40
  go_wp2_with fail
  refine K.out.mono ?_
  rintro x0 w1 ⟨hb, hx⟩
  have J1 := H.out.keep hb
  have c0 := J1.rb.cell 2 _ rfl
  have f0 := J1.rb.fz 2
  have bl1 := J1.rb.lt
  have HB := Lib.hid hb
  have HJ := Lib.hid J1
  clear hb J1 K bl
  rcases hx with ⟨t, ht, rfl⟩ | ⟨ht, t, j, rfl⟩
  · obtain ⟨p1, p2⟩ := HJ.out.put 2 (.int .i64 t) (e' := { e with start := t }) rfl ⟨rfl, rfl, rfl, rfl, rfl⟩
    have Z : Hid (RdA 2 e s nx b n1 S val.data.toList w (.returned (.bool true)) (w1.setCell ⟨b, 2, none⟩ (.int .i64 t))) := Lib.hid (Or.inl ⟨_, S, by rw [rd2, ht]; rfl, rfl, Gr.refl _ _, H.out.set HB.out 2 _, s, p1, Or.inl ⟨rfl, rfl, rfl, rfl, rfl⟩⟩)
    clear p1 p2 ht HJ H HB
    go_wp2
    go_ret
    exact Z.out
  · have Z : Hid (RdA 2 e s nx b n1 S val.data.toList w (.returned (.bool false)) (w1.setCell ⟨b, 2, none⟩ (.int .i64 t))) := Lib.hid (Or.inr ⟨by rw [rd2, ht]; rfl, rfl, H.out.set HB.out 2 _⟩)
    clear ht HJ H HB
    go_wp2
    go_ret
    exact Z.out
end Go.Proofs.YtpplfcfhjpfckaaGreatDoor
namespace Go.Proofs.YtpplfcfhjpfckaaGreatDoor
open Go.RowKit Go Cal Txt Ln Cb

set_option maxRecDepth 100000 in
set_option maxHeartbeats 1600000 in
theorem read_3 (e : Evt) (nx b n1 : Nat) (s : Evs) (S : Nat → Prop) (val : ByteArray) (w : World) (h : RdJ b n1 e nx s S w) (hK : ∀ W, Below n1 w W → KeepK W) (hs : val.size ≤ 2000000) :
    Calls Tryz.prog 40 #[.pointer (some ⟨b, 0, none⟩), .string ⟨#[76, 69, 78, 71, 84, 72]⟩, .string val] w (RdA 3 e s nx b n1 S val.data.toList w) := by
  have K := Lib.hid (span_op val w (hK w (Below.refl _ _)).uni hs)
  have H := Lib.hid h
  have bl := h.rb.lt
  clear h hK
  go_enter Tryz.func40, Tryz.ntmps40
  go_wp2_with fail
  refine K.out.mono ?_
  rintro x0 w1 ⟨hb, hx⟩
  have J1 := H.out.keep hb
  have c0 := J1.rb.cell 3 _ rfl
  have f0 := J1.rb.fz 3
  have bl1 := J1.rb.lt
  have HB := Lib.hid hb
  have HJ := Lib.hid J1
  clear hb J1 K bl
  rcases hx with ⟨t, ht, rfl⟩ | ⟨ht, t, j, rfl⟩
  · obtain ⟨p1, p2⟩ := HJ.out.put 3 (.int .i64 t) (e' := { e with len := t }) rfl ⟨rfl, rfl, rfl, rfl, rfl⟩
    have Z : Hid (RdA 3 e s nx b n1 S val.data.toList w (.returned (.bool true)) (w1.setCell ⟨b, 3, none⟩ (.int .i64 t))) := Lib.hid (Or.inl ⟨_, S, by rw [rd3, ht]; rfl, rfl, Gr.refl _ _, H.out.set HB.out 3 _, s, p1, Or.inl ⟨rfl, rfl, rfl, rfl, rfl⟩⟩)
    clear p1 p2 ht HJ H HB
    go_wp2
    go_ret
    exact Z.out
  · have Z : Hid (RdA 3 e s nx b n1 S val.data.toList w (.returned (.bool false)) (w1.setCell ⟨b, 3, none⟩ (.int .i64 t))) := Lib.hid (Or.inr ⟨by rw [rd3, ht]; rfl, rfl, H.out.set HB.out 3 _⟩)
    clear ht HJ H HB
    go_wp2
    go_ret
    exact Z.out
end Go.Proofs.YtpplfcfhjpfckaaGreatDoor
