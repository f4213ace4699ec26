/-
  What is proved here: what package card's read does at one kind of line (a contract over the translation).
  What is proved here: what package card's read does at one kind of line (a contract over the translation).
  What is proved here: what package card's read does at one kind of line (a contract over the translation).
  What is proved here: what package card's read does at one kind of line (a contract over the translation).
  What is proved here: what package card's read does at one kind of line (a contract over the translation).
-/
import Derived.Test.YtpplfcfhjpfckaaGreatDoorQM
namespace Go.Proofs.YtpplfcfhjpfckaaGreatDoor
open Go.RowKit Go Cal Txt Ln Cb

set_option maxRecDepth 100000 in
set_option maxHeartbeats 1600000 in
theorem read_4 (e : Evt) (nx b n1 : Nat) (s : Evs) (S : Nat → Prop) (val : ByteArray) (w : World) (h : RdJ b n1 e nx s S w) (hK : ∀ W, Below n1 w W → KeepK W) (hs : val.size ≤ 2000000) :
    Calls Tryz.prog 40 #[.pointer (some ⟨b, 0, none⟩), .string ⟨#[82, 85, 76, 69]⟩, .string val] w (RdA 4 e s nx b n1 S val.data.toList w) := by
  obtain ⟨p1, p2⟩ := h.put 4 (.bool true) (e' := { e with rep := true }) rfl ⟨rfl, rfl, rfl, rfl, rfl⟩
  have b4 : Below n1 w (w.setCell ⟨b, 4, none⟩ (.bool true)) := p2.below (fun k hk => (h.lt k hk).1) (Nat.le_trans h.hn (Nat.le_of_lt h.rb.lt))
  have K := Lib.hid (parse_far val (w.setCell ⟨b, 4, none⟩ (.bool true)) (hK _ b4).kp hs)
  have c0 := h.rb.cell 4 _ rfl
  have f0 := h.rb.fz 4
  have bl := h.rb.lt
  have HP1 := Lib.hid p1
  have HP2 := Lib.hid p2
  have HL := Lib.hid h.lt
  have sz4 : (w.setCell ⟨b, 4, none⟩ (.bool true)).heap.size = w.heap.size := by simp [World.setCell]
  clear h hK p1 p2 b4
  go_enter Tryz.func40, Tryz.ntmps40
  go_wp2_with fail
  refine K.out.mono ?_
  rintro x0 w1 ⟨hb, hx⟩
  have J1 := HP1.out.keep hb
  have c5 := J1.rb.cell 5 _ rfl
  have f5 := J1.rb.fz 5
  have c6 := J1.rb.cell 6 _ rfl
  have f6 := J1.rb.fz 6
  have c7 := J1.rb.cell 7 _ rfl
  have f7 := J1.rb.fz 7
  have c8 := J1.rb.cell 8 _ rfl
  have f8 := J1.rb.fz 8
  have c9 := J1.rb.cell 9 _ rfl
  have f9 := J1.rb.fz 9
  have c10 := J1.rb.cell 10 _ rfl
  have f10 := J1.rb.fz 10
  have c11 := J1.rb.cell 11 _ rfl
  have f11 := J1.rb.fz 11
  have c12 := J1.rb.cell 12 _ rfl
  have f12 := J1.rb.fz 12
  have bl1 := J1.rb.lt
  have HB := Lib.hid hb
  have HJ := Lib.hid J1
  clear K c0 f0 HP1
  rcases hx with ⟨hp, rfl⟩ | ⟨r, v, hr, hf, rfl, vm, vd, vw, vp, rfl, ⟨hm, fm⟩, ⟨hd, fd⟩, ⟨hw, fw⟩, hq, fq⟩
  · have RN : rd 4 e val.data.toList = none := by
      rw [rd4]
      have : ruO val.data.toList = none := by
        unfold ruO
        unfold pe at hp
        cases hr : rr val.data.toList with
        | none => rfl
        | some r => rw [hr] at hp; exact if_neg hp
      rw [this]; rfl
    have Z : Hid (RdA 4 e s nx b n1 S val.data.toList w (.returned (.bool false)) (w1.setCells b 5 [.int .i64 0, .int .i64 0, .int .i64 0, .int .i64 0, .slice none 0 0, .slice none 0 0, .slice none 0 0, .slice none 0 0])) := Lib.hid (Or.inr ⟨RN, rfl, (HP2.out.trans (Kps.of_below (S := S) HB.out) (Gr.refl _ _)).trans ((kps_cells b _ _ _).mono (S1 := S) (fun k z => by rw [z]; exact (HJ.out.hs b).2 (Or.inl rfl))) (Gr.refl _ _)⟩)
    clear hp RN HJ HB hb J1 HP2
    simp only [World.setCells] at Z
    go_wp2
    go_ret
    exact Z.out
  · obtain ⟨am, cm, rfl, _⟩ := id hm
    obtain ⟨ad, cd, rfl, _⟩ := id hd
    obtain ⟨aw, cw, rfl, _⟩ := id hw
    obtain ⟨ap, cp, rfl, _⟩ := id hq
    have RN : rd 4 e val.data.toList = some { e with rep := true, rule := r } := by
      rw [rd4]
      have : ruO val.data.toList = some r := by unfold ruO; rw [hr]; exact if_pos hf
      rw [this]; rfl
    have kc := kps_cells b [.int .i64 r.freq, .int .i64 r.every, .int .i64 r.count, .int .i64 r.till, .slice am r.months.length cm, .slice ad r.days.length cd, .slice aw r.weeks.length cw, .slice ap r.pick.length cp] 5 w1
    have off : ∀ v, Far (w.setCell ⟨b, 4, none⟩ (.bool true)).heap.size v → ∀ a n c, v = .slice (some a) n c → ¬ S a.block := fun v fv a n c ev z => by
      have z1 := fv a n c ev
      have z2 := (HL.out _ z).2
      omega
    have offb : ∀ v, Far (w.setCell ⟨b, 4, none⟩ (.bool true)).heap.size v → ∀ a n c, v = .slice (some a) n c → a.block ≠ b := fun v fv a n c ev z => by
      have z1 := fv a n c ev
      omega
    have RI : ∀ {v : Value} {l : List Int}, Ints w1 v l → Far (w.setCell ⟨b, 4, none⟩ (.bool true)).heap.size v → IntO (w1.setCells b 5 [.int .i64 r.freq, .int .i64 r.every, .int .i64 r.count, .int .i64 r.till, .slice am r.months.length cm, .slice ad r.days.length cd, .slice aw r.weeks.length cw, .slice ap r.pick.length cp]) S v l := fun {v l} hi hfv => by
      have q : IntO w1 (fun k => k = b) v l := ⟨hi, Or.inr (fun a n c ev => offb v hfv a n c ev)⟩
      exact ⟨(q.on (Gr.refl _ _) kc).1, Or.inr (off v hfv)⟩
    have RNt : NthO (w1.setCells b 5 [.int .i64 r.freq, .int .i64 r.every, .int .i64 r.count, .int .i64 r.till, .slice am r.months.length cm, .slice ad r.days.length cd, .slice aw r.weeks.length cw, .slice ap r.pick.length cp]) S (.slice aw r.weeks.length cw) r.weeks := by
      have q : NthO w1 (fun k => k = b) (.slice aw r.weeks.length cw) r.weeks := ⟨hw, Or.inr (fun a n c ev => offb _ fw a n c ev)⟩
      exact ⟨(q.on (Gr.refl _ _) kc).1, Or.inr (off _ fw)⟩
    obtain ⟨n5, n6, n7, n8⟩ := J1.ne
    have JJ : RdJ b n1 { e with rep := true, rule := r } nx { s with vm := .slice am r.months.length cm, vd := .slice ad r.days.length cd, vw := .slice aw r.weeks.length cw, vp := .slice ap r.pick.length cp } S (w1.setCells b 5 [.int .i64 r.freq, .int .i64 r.every, .int .i64 r.count, .int .i64 r.till, .slice am r.months.length cm, .slice ad r.days.length cd, .slice aw r.weeks.length cw, .slice ap r.pick.length cp]) := by
      refine ⟨?_, own_keep J1.r5 kc (fun g hg z => n5 (by rw [hg, z])), own_keep J1.r6 kc (fun g hg z => n6 (by rw [hg, z])), own_keep J1.r7 kc (fun g hg z => n7 (by rw [hg, z])), own_keep J1.r8 kc (fun g hg z => n8 (by rw [hg, z])), J1.d, ⟨RI hm fm, RI hd fd, RNt, RI hq fq⟩, J1.hs, J1.hn⟩
      exact put8 _ _ _ _ _ _ _ _ J1.rb
    have Z : Hid (RdA 4 e s nx b n1 S val.data.toList w (.returned (.bool true)) (w1.setCells b 5 [.int .i64 r.freq, .int .i64 r.every, .int .i64 r.count, .int .i64 r.till, .slice am r.months.length cm, .slice ad r.days.length cd, .slice aw r.weeks.length cw, .slice ap r.pick.length cp])) := Lib.hid (Or.inl ⟨_, S, RN, rfl, Gr.refl _ _, (HP2.out.trans (Kps.of_below (S := S) HB.out) (Gr.refl _ _)).trans (kc.mono (S1 := S) (fun k z => by rw [z]; exact (HJ.out.hs b).2 (Or.inl rfl))) (Gr.refl _ _), _, JJ, Or.inr ⟨by rw [← sz4]; exact fm, by rw [← sz4]; exact fd, by rw [← sz4]; exact fw, by rw [← sz4]; exact fq⟩⟩)
    clear RN HJ HB hb J1 HP2 JJ RI RNt off offb kc hm fm hd fd hw fw hq fq hr hf HL
    simp only [World.setCells] at Z
    go_wp2
    go_ret
    exact Z.out
end Go.Proofs.YtpplfcfhjpfckaaGreatDoor
namespace Go.Proofs.YtpplfcfhjpfckaaGreatDoor
open Go.RowKit Go Cal Txt Ln Cb

set_option maxRecDepth 100000 in
set_option maxHeartbeats 1600000 in
theorem read_5 (e : Evt) (nx b n1 : Nat) (s : Evs) (S : Nat → Prop) (val : ByteArray) (w : World) (h : RdJ b n1 e nx s S w) (hK : ∀ W, Below n1 w W → KeepK W) (hl : e.more.length ≤ 2000000 ∧ e.nots.length ≤ 2000000 ∧ e.chg.length ≤ 2000000 ∧ e.alm.length ≤ 2000000) :
    Calls Tryz.prog 40 #[.pointer (some ⟨b, 0, none⟩), .string ⟨#[77, 79, 82, 69]⟩, .string val] w (RdA 5 e s nx b n1 S val.data.toList w) := by
  have K := Lib.hid (with_int 69 (enters_of Tryz.func69 (by kernel_rfl) rfl) _ val s.vo e.more n1 w h.r5 (Nat.le_trans h.hn (Nat.le_of_lt h.rb.lt)) hl.1 (time_op val w (hK w (Below.refl _ _)).kp.tab))
  have H := Lib.hid h
  have c0 := h.rb.cell 13 _ rfl
  have bl := h.rb.lt
  clear h hK hl
  go_enter Tryz.func40, Tryz.ntmps40
  go_wp2_with fail
  refine K.out.mono ?_
  rintro x0 w1 hx
  clear K c0
  rcases hx with ⟨t, v', ht, rfl, hown, ha, hk⟩ | ⟨ht, ⟨j, rfl⟩, hb⟩
  · obtain ⟨rb1, S', g1, g2, g3⟩ := H.out.row_5 hown ha hk
    have c1 := rb1.cell 13 _ rfl
    have f1 := rb1.fz 13
    have bl1 := rb1.lt
    have Z : Hid (RdA 5 e s nx b n1 S val.data.toList w (.returned (.bool true)) (w1.setCell ⟨b, 13, none⟩ v')) := Lib.hid (Or.inl ⟨_, S', by rw [rd5, ht]; rfl, rfl, g1, g2, g3⟩)
    obtain ⟨av, nv, cv, rfl⟩ : ∃ a n c, v' = .slice a n c := by
      obtain ⟨a, c, q⟩ := slice_form hown
      exact ⟨a, _, c, q⟩
    clear rb1 g1 g2 g3 hown ha hk ht H
    go_wp2
    go_ret
    exact Z.out
  · have J1 := H.out.keep hb
    have c1 := J1.rb.cell 13 _ rfl
    have f1 := J1.rb.fz 13
    have bl1 := J1.rb.lt
    have Z : Hid (RdA 5 e s nx b n1 S val.data.toList w (.returned (.bool false)) (w1.setCell ⟨b, 13, none⟩ (.slice none 0 0))) := Lib.hid (Or.inr ⟨by rw [rd5, ht]; rfl, rfl, H.out.set hb 13 _⟩)
    clear J1 hb ht H
    go_wp2
    go_ret
    exact Z.out
end Go.Proofs.YtpplfcfhjpfckaaGreatDoor
namespace Go.Proofs.YtpplfcfhjpfckaaGreatDoor
open Go.RowKit Go Cal Txt Ln Cb

set_option maxRecDepth 100000 in
set_option maxHeartbeats 1600000 in
theorem read_6 (e : Evt) (nx b n1 : Nat) (s : Evs) (S : Nat → Prop) (val : ByteArray) (w : World) (h : RdJ b n1 e nx s S w) (hK : ∀ W, Below n1 w W → KeepK W) (hl : e.more.length ≤ 2000000 ∧ e.nots.length ≤ 2000000 ∧ e.chg.length ≤ 2000000 ∧ e.alm.length ≤ 2000000) :
    Calls Tryz.prog 40 #[.pointer (some ⟨b, 0, none⟩), .string ⟨#[78, 79, 84]⟩, .string val] w (RdA 6 e s nx b n1 S val.data.toList w) := by
  have K := Lib.hid (with_int 69 (enters_of Tryz.func69 (by kernel_rfl) rfl) _ val s.vn e.nots n1 w h.r6 (Nat.le_trans h.hn (Nat.le_of_lt h.rb.lt)) hl.2.1 (time_op val w (hK w (Below.refl _ _)).kp.tab))
  have H := Lib.hid h
  have c0 := h.rb.cell 14 _ rfl
  have bl := h.rb.lt
  clear h hK hl
  go_enter Tryz.func40, Tryz.ntmps40
  go_wp2_with fail
  refine K.out.mono ?_
  rintro x0 w1 hx
  clear K c0
  rcases hx with ⟨t, v', ht, rfl, hown, ha, hk⟩ | ⟨ht, ⟨j, rfl⟩, hb⟩
  · obtain ⟨rb1, S', g1, g2, g3⟩ := H.out.row_6 hown ha hk
    have c1 := rb1.cell 14 _ rfl
    have f1 := rb1.fz 14
    have bl1 := rb1.lt
    have Z : Hid (RdA 6 e s nx b n1 S val.data.toList w (.returned (.bool true)) (w1.setCell ⟨b, 14, none⟩ v')) := Lib.hid (Or.inl ⟨_, S', by rw [rd6, ht]; rfl, rfl, g1, g2, g3⟩)
    obtain ⟨av, nv, cv, rfl⟩ : ∃ a n c, v' = .slice a n c := by
      obtain ⟨a, c, q⟩ := slice_form hown
      exact ⟨a, _, c, q⟩
    clear rb1 g1 g2 g3 hown ha hk ht H
    go_wp2
    go_ret
    exact Z.out
  · have J1 := H.out.keep hb
    have c1 := J1.rb.cell 14 _ rfl
    have f1 := J1.rb.fz 14
    have bl1 := J1.rb.lt
    have Z : Hid (RdA 6 e s nx b n1 S val.data.toList w (.returned (.bool false)) (w1.setCell ⟨b, 14, none⟩ (.slice none 0 0))) := Lib.hid (Or.inr ⟨by rw [rd6, ht]; rfl, rfl, H.out.set hb 14 _⟩)
    clear J1 hb ht H
    go_wp2
    go_ret
    exact Z.out
end Go.Proofs.YtpplfcfhjpfckaaGreatDoor
namespace Go.Proofs.YtpplfcfhjpfckaaGreatDoor
open Go.RowKit Go Cal Txt Ln Cb

set_option maxRecDepth 100000 in
set_option maxHeartbeats 1600000 in
theorem read_7 (e : Evt) (nx b n1 : Nat) (s : Evs) (S : Nat → Prop) (val : ByteArray) (w : World) (h : RdJ b n1 e nx s S w) (hK : ∀ W, Below n1 w W → KeepK W) (hs : val.size ≤ 2000000) (hl : e.more.length ≤ 2000000 ∧ e.nots.length ≤ 2000000 ∧ e.chg.length ≤ 2000000 ∧ e.alm.length ≤ 2000000) :
    Calls Tryz.prog 40 #[.pointer (some ⟨b, 0, none⟩), .string ⟨#[77, 79, 86, 69]⟩, .string val] w (RdA 7 e s nx b n1 S val.data.toList w) := by
  have K := Lib.hid (with_chg 74 (enters_of Tryz.func74 (by kernel_rfl) rfl) _ val s.vc e.chg n1 w h.r7 (Nat.le_trans h.hn (Nat.le_of_lt h.rb.lt)) hl.2.2.1 (change_op val w (hK w (Below.refl _ _)).kp.tab hs))
  have H := Lib.hid h
  have c0 := h.rb.cell 15 _ rfl
  have bl := h.rb.lt
  clear h hK hl
  go_enter Tryz.func40, Tryz.ntmps40
  go_wp2_with fail
  refine K.out.mono ?_
  rintro x0 w1 hx
  clear K c0
  rcases hx with ⟨t, v', ht, rfl, hown, ha, hk⟩ | ⟨ht, ⟨j, rfl⟩, hb⟩
  · obtain ⟨rb1, S', g1, g2, g3⟩ := H.out.row_7 hown ha hk
    have c1 := rb1.cell 15 _ rfl
    have f1 := rb1.fz 15
    have bl1 := rb1.lt
    have Z : Hid (RdA 7 e s nx b n1 S val.data.toList w (.returned (.bool true)) (w1.setCell ⟨b, 15, none⟩ v')) := Lib.hid (Or.inl ⟨_, S', by rw [rd7, ht]; rfl, rfl, g1, g2, g3⟩)
    obtain ⟨av, nv, cv, rfl⟩ : ∃ a n c, v' = .slice a n c := by
      obtain ⟨a, c, q⟩ := slice_form hown
      exact ⟨a, _, c, q⟩
    clear rb1 g1 g2 g3 hown ha hk ht H
    go_wp2
    go_ret
    exact Z.out
  · have J1 := H.out.keep hb
    have c1 := J1.rb.cell 15 _ rfl
    have f1 := J1.rb.fz 15
    have bl1 := J1.rb.lt
    have Z : Hid (RdA 7 e s nx b n1 S val.data.toList w (.returned (.bool false)) (w1.setCell ⟨b, 15, none⟩ (.slice none 0 0))) := Lib.hid (Or.inr ⟨by rw [rd7, ht]; rfl, rfl, H.out.set hb 15 _⟩)
    clear J1 hb ht H
    go_wp2
    go_ret
    exact Z.out
end Go.Proofs.YtpplfcfhjpfckaaGreatDoor
namespace Go.Proofs.YtpplfcfhjpfckaaGreatDoor
open Go.RowKit Go Cal Txt Ln Cb

set_option maxRecDepth 100000 in
set_option maxHeartbeats 1600000 in
theorem read_8 (e : Evt) (nx b n1 : Nat) (s : Evs) (S : Nat → Prop) (val : ByteArray) (w : World) (h : RdJ b n1 e nx s S w) (hK : ∀ W, Below n1 w W → KeepK W) (hs : val.size ≤ 2000000) (hl : e.more.length ≤ 2000000 ∧ e.nots.length ≤ 2000000 ∧ e.chg.length ≤ 2000000 ∧ e.alm.length ≤ 2000000) :
    Calls Tryz.prog 40 #[.pointer (some ⟨b, 0, none⟩), .string ⟨#[65, 76, 65, 82, 77]⟩, .string val] w (RdA 8 e s nx b n1 S val.data.toList w) := by
  have K := Lib.hid (with_alm 76 (enters_of Tryz.func76 (by kernel_rfl) rfl) _ val s.va e.alm n1 w h.r8 (Nat.le_trans h.hn (Nat.le_of_lt h.rb.lt)) hl.2.2.2 (alarm_op val w (hK w (Below.refl _ _)).kp.pow (hK w (Below.refl _ _)).kp.ers (hK w (Below.refl _ _)).uni hs))
  have H := Lib.hid h
  have c0 := h.rb.cell 16 _ rfl
  have bl := h.rb.lt
  clear h hK hl
  go_enter Tryz.func40, Tryz.ntmps40
  go_wp2_with fail
  refine K.out.mono ?_
  rintro x0 w1 hx
  clear K c0
  rcases hx with ⟨t, v', ht, rfl, hown, ha, hk⟩ | ⟨ht, ⟨j, rfl⟩, hb⟩
  · obtain ⟨rb1, S', g1, g2, g3⟩ := H.out.row_8 hown ha hk
    have c1 := rb1.cell 16 _ rfl
    have f1 := rb1.fz 16
    have bl1 := rb1.lt
    have Z : Hid (RdA 8 e s nx b n1 S val.data.toList w (.returned (.bool true)) (w1.setCell ⟨b, 16, none⟩ v')) := Lib.hid (Or.inl ⟨_, S', by rw [rd8, ht]; rfl, rfl, g1, g2, g3⟩)
    obtain ⟨av, nv, cv, rfl⟩ : ∃ a n c, v' = .slice a n c := by
      obtain ⟨a, c, q⟩ := slice_form hown
      exact ⟨a, _, c, q⟩
    clear rb1 g1 g2 g3 hown ha hk ht H
    go_wp2
    go_ret
    exact Z.out
  · have J1 := H.out.keep hb
    have c1 := J1.rb.cell 16 _ rfl
    have f1 := J1.rb.fz 16
    have bl1 := J1.rb.lt
    have Z : Hid (RdA 8 e s nx b n1 S val.data.toList w (.returned (.bool false)) (w1.setCell ⟨b, 16, none⟩ (.slice none 0 0))) := Lib.hid (Or.inr ⟨by rw [rd8, ht]; rfl, rfl, H.out.set hb 16 _⟩)
    clear J1 hb ht H
    go_wp2
    go_ret
    exact Z.out
end Go.Proofs.YtpplfcfhjpfckaaGreatDoor
