/-
  What is proved here: what package wheel's Go answers, and what it keeps (a contract over the translation).
-/
import Derived.Test.YtpnbnnndpbjgmaaDoorWhGoP
import Derived.Test.YtpnbnnndpbjgmaaDoorWhSort
namespace Go.Proofs.YtpnbnnndpbjgmaaDoor.Qu
open Go.RowKit

/-- What Go answers where it does not go on. -/
def WgnA (b : Nat) (S : Nat → Value) (now : Int) (M : List Rq) (f : Int) (w : World) (e : Ending) (w' : World) : Prop := e = .returned (.tuple #[.slice none 0 0, fault f]) ∧ Wl w' b S now M ∧ Below w.heap.size w w'
theorem wgo_no (w : World) (b : Nat) (S : Nat → Value) (now : Int) (M : List Rq) (t : Int) (h : Wl w b S now M) (hf : ¬ wgf now t = 0) :
    Calls Tryd.prog 12 #[.pointer (some ⟨b, 0, none⟩), .int .i64 t] w (WgnA b S now M (wgf now t) w) := by
  have KT : Hid (∀ X, Calls Tryd.prog 17 #[.int .i64 t] X fun e w' => e = .returned (.bool (ist t)) ∧ w' = X) := Lib.hid (fun X => isTime_any _ X)
  have FI : Hid (∀ k, wgf now t = k → WgnA b S now M k w (.returned (.tuple #[.slice none 0 0, fault k])) w) := Lib.hid (fun k _ => ⟨rfl, h, Below.refl _ _⟩)
  obtain ⟨R, hm, hi⟩ := h
  have c := hm.box.cnow
  have bl := hm.box.lt
  rcases hT : ist t with _ | _
  · have e1 : wgf now t = 1 := by unfold wgf; rw [if_pos hT]
    have N1 := Lib.hid (FI.out 1 e1)
    rw [e1]
    rw [hT] at KT
    generalize WgnA b S now M 1 w = PP at N1 ⊢
    clear hm hi hT e1 FI hf
    go_enter Tryd.func12, Tryd.ntmps12
    go_wp2_with (go_at_call 17; refine (KT.out _).mono ?_; rintro e w2 ⟨rfl, hw⟩; replace hw := hw.symm; subst hw)
    exact N1.out
  · have hN : t < now := by
      rcases Int.lt_or_le t now with q | q
      · exact q
      · exact absurd (by unfold wgf; rw [if_neg (by rw [hT]; decide), if_neg (by omega)]) hf
    have e1 : wgf now t = 6 := by unfold wgf; rw [if_neg (by rw [hT]; decide), if_pos hN]
    have N1 := Lib.hid (FI.out 6 e1)
    rw [e1]
    rw [hT] at KT
    generalize WgnA b S now M 6 w = PP at N1 ⊢
    clear hm hi hT e1 FI hf
    go_enter Tryd.func12, Tryd.ntmps12
    go_wp2_with (go_at_call 17; refine (KT.out _).mono ?_; rintro e w2 ⟨rfl, hw⟩; replace hw := hw.symm; subst hw)
    exact N1.out
/-- What Go answers where it goes on. -/
def WgyA (b : Nat) (S : Nat → Value) (M : List Rq) (t : Int) (w : World) (e : Ending) (w' : World) : Prop := ∃ u S', e = .returned (.tuple #[u, .nilIface]) ∧ Wl w' b S' t (laterQ M t) ∧ Kf (Ft b S) (Ft b S') w w' ∧ Ow w' w.heap.size u (dueQ M t) ∧ ∀ g, u.ownBlock = some g → ¬ Ft b S' g
/-- The end. -/
theorem go_end {w wr : World} {b : Nat} {S : Nat → Value} {R : Nat → List Rq} {now t : Int} {M P : List Rq} {u dv : Value} (hi : Iv now R M) (hPM : ∀ z, z ∈ P → z ∈ M) (hP : P.Nodup) (hdue : ∀ z, z ∈ M → z.1 ≤ t → z ∈ P) (h : GoI w b S M.length t M P u P.length dv wr) :
    ∃ (a : Option Addr) (d cap : Nat), dv = .slice a d cap ∧ d = (dueQ M t).length ∧ wr.cell? ⟨b, 1, none⟩ = some (.int .i64 (M.length : Int)) ∧ wr.frozen? ⟨b, 1, none⟩ = false ∧ b < wr.heap.size ∧
      Calls Tryd.prog 26 #[dv, .func (.func 27) #[] #[]] (wr.setCell ⟨b, 1, none⟩ (.int .i64 ((M.length : Int) - (d : Int)))) fun e w' => e = .returned (.tuple #[]) ∧ WgyA b S M t w (.returned (.tuple #[dv, .nilIface])) w' := by
  obtain ⟨Si, Ri, Ni, h1, h2, h3, h4, h5, h6, h7, h8, h9⟩ := h
  rw [List.take_length] at h3 h7
  obtain ⟨D, hD⟩ : ∃ D, D = P.filter (fun z => decide (z.1 ≤ t)) := ⟨_, rfl⟩
  rw [← hD] at h7
  have nD : D.Nodup := by rw [hD]; exact List.Pairwise.sublist List.filter_sublist hP
  have memD : ∀ z, z ∈ D ↔ z ∈ dueQ M t := fun z => by
    rw [hD, List.mem_filter, decide_eq_true_iff, dueQ_mem]
    exact ⟨fun q => ⟨hPM z q.1, q.2⟩, fun q => ⟨hdue z q.1 q.2, q.2⟩⟩
  have lenD : D.length = (dueQ M t).length := Nat.le_antisymm (nd_len nD (fun z hz => (memD z).1 hz)) (nd_len (rs_nd (dueQ_rs hi.rs)) (fun z hz => (memD z).2 hz))
  obtain ⟨a, cap, e7, _⟩ := h7.rd
  have hdl := due_later M t
  have hM4 := hi.len
  refine ⟨a, D.length, cap, e7, lenD, h1.box.cmany, h1.box.frozen _, h1.box.lt, ?_⟩
  obtain ⟨m5, f5⟩ := wm_many h1 ((M.length : Int) - (D.length : Int))
  obtain ⟨W5, hW5⟩ : ∃ W5, W5 = wr.setCell ⟨b, 1, none⟩ (.int .i64 ((M.length : Int) - (D.length : Int))) := ⟨_, rfl⟩
  rw [← hW5] at m5 f5 ⊢
  have o5 : Ow W5 w.heap.size dv D := own_on h7 (fun g hg => f5.block g (h7.lt g hg).2 (h8 g hg))
  refine (sortQ_any D w.heap.size dv W5 o5 (by omega)).mono (fun e w' ⟨he, B, hp, hs, g6, o6⟩ => ⟨he, dv, Si, rfl, ?_⟩)
  have eB := sorted_due hi hP hPM hdue hD hp hs
  have hn : w.heap.size ≤ W5.heap.size := Nat.le_trans h4.size f5.size
  have b6 := grown_low o5 hn g6
  have m6 : Wm w' b t ((M.length : Int) - (D.length : Int)) Si Ri := m5.on (fun g hg => g6.block g (m5.inw hg).2 (fun e => h8 g e.symm hg))
  rw [eB] at o6
  have el : ((M.length : Int) - (D.length : Int)) = ((laterQ M t).length : Int) := by omega
  rw [el] at m6
  exact ⟨⟨Ri, m6, h2.fin hi.rs (P := P) h3⟩, (h4.trans f5).later b6, o6, h8⟩
theorem GoI.rd {w wr : World} {b k : Nat} {S : Nat → Value} {n t : Int} {M P : List Rq} {u dv : Value} (h : GoI w b S n t M P u k dv wr) : Rd wr u P := by
  obtain ⟨_, _, _, _, _, _, _, h5, _⟩ := h
  exact h5.rd
set_option maxHeartbeats 4000000 in
set_option maxRecDepth 100000 in
theorem wgo_yes (w : World) (b : Nat) (S : Nat → Value) (now : Int) (M : List Rq) (t : Int) (h : Wl w b S now M) (hT : ist t = true) (hle : now ≤ t) :
    Calls Tryd.prog 12 #[.pointer (some ⟨b, 0, none⟩), .int .i64 t] w (WgyA b S M t w) := by
  have KT : Hid (∀ X, Calls Tryd.prog 17 #[.int .i64 t] X fun e w' => e = .returned (.bool true) ∧ w' = X) := Lib.hid (fun X => by rw [← hT]; exact isTime_any _ X)
  obtain ⟨R, hm, hi⟩ := h
  obtain ⟨t1, t2⟩ := ist_in hT
  have c := hm.box.cnow
  have bl := hm.box.lt
  have KU : Hid (Calls Tryd.prog 25 #[.pointer (some ⟨b, 0, none⟩), .int .i64 t] w fun e w2 => ∃ (u : Value) (P : List Rq), e = .returned u ∧ w2.cell? ⟨b, 0, none⟩ = some (.int .i64 now) ∧ w2.frozen? ⟨b, 0, none⟩ = false ∧ b < w2.heap.size ∧ Hid ((∀ z, z ∈ P → z ∈ M) ∧ P.Nodup ∧ (∀ z, z ∈ M → z.1 ≤ t → z ∈ P) ∧ P.length ≤ 400) ∧ Hid (GoI w b S M.length t M P u 0 (.slice none 0 0) (w2.setCell ⟨b, 0, none⟩ (.int .i64 t)))) := Lib.hid (by
    refine (takeUp_any w b now _ S R t hm hi.n1 hi.n2 t1 t2 (by have := hi.tk_len (n := 320) (Nat.le_refl _); have := hi.len; omega)).mono (fun e w2 ⟨l, s, u, hs, hl5, hs6, he, hT2⟩ => ?_)
    have hK : l * 64 + (s + 1) ≤ 320 := by omega
    refine ⟨u, _, he, hT2.2.1.box.cnow, hT2.2.1.box.frozen _, hT2.2.1.box.lt, Lib.hid ⟨fun z hz => ?_, hi.tk_nd _ hK, fun z hz hd => hi.due hs hs6 t1 hz hd, Nat.le_trans (hi.tk_len hK) hi.len⟩, Lib.hid (go_start hm hi hs hs6 t1 t2 hT2)⟩
    obtain ⟨k, _, h2, h3⟩ := tkL_mem.1 hz
    exact (hi.mem z).2 ⟨k, by omega, h3⟩)
  have HI := Lib.hid hi
  generalize hPP : WgyA b S M t w = PP
  have d1 : ¬ t < now := by omega
  clear hm hi hT
  go_enter Tryd.func12, Tryd.ntmps12
  go_upto_region 8 with (first
    | (go_at_call 17; refine (KT.out _).mono ?_; rintro e w2 ⟨rfl, hw⟩; replace hw := hw.symm; subst hw)
    | (go_at_call 25; refine KU.out.mono ?_; rintro e w2 ⟨u, P, rfl, c2, f2, bl2, HP, HG⟩))
  obtain ⟨a, cap, eu, _⟩ := HG.out.rd
  subst eu
  have PL : P.length ≤ 400 := HP.out.2.2.2
  have KD : Hid (∀ k dv X r, GoI w b S M.length t M P (.slice a P.length cap) k dv X → k < P.length → P.getD k zq = r → r.1 ≤ t → ∃ v' w3, Hid (∀ ty, (Builtin.append_ #[23, 23] ty #[dv, .slice (some ⟨X.heap.size + 1, 0, none⟩) 1 1]).run Tryd.prog ((X.alloc (.cells #[.int .i64 r.1, .string r.2.1, .int .i64 r.2.2.1, .int .i64 r.2.2.2.1, .int .i64 r.2.2.2.2] 34)).alloc (.cells #[.int .i64 r.1, .string r.2.1, .int .i64 r.2.2.1, .int .i64 r.2.2.2.1, .int .i64 r.2.2.2.2] 34)) = .ok v' w3) ∧ Hid (GoI w b S M.length t M P (.slice a P.length cap) (k + 1) v' w3)) := Lib.hid (fun k dv X r hg hk hr hd => by
    obtain ⟨v', w3, h1, h2⟩ := go_due (hg.onB (below_alloc X (.cells #[.int .i64 r.1, .string r.2.1, .int .i64 r.2.2.1, .int .i64 r.2.2.2.1, .int .i64 r.2.2.2.2] 34))) hk hr hd (by omega)
    rw [World.size_alloc] at h1
    exact ⟨v', w3, Lib.hid h1, Lib.hid h2⟩)
  have KL : Hid (∀ k dv X r, GoI w b S M.length t M P (.slice a P.length cap) k dv X → k < P.length → P.getD k zq = r → t < r.1 → Calls Tryd.prog 22 #[.pointer (some ⟨b, 0, none⟩), agQ r] (X.alloc (.cells #[.int .i64 r.1, .string r.2.1, .int .i64 r.2.2.1, .int .i64 r.2.2.2.1, .int .i64 r.2.2.2.2] 34)) fun e w4 => e = .returned (.tuple #[]) ∧ Hid (GoI w b S M.length t M P (.slice a P.length cap) (k + 1) dv w4)) := Lib.hid (fun k dv X r hg hk hr hd => (go_lay HI.out HP.out.1 HP.out.2.1 (hg.onB (below_alloc X (.cells #[.int .i64 r.1, .string r.2.1, .int .i64 r.2.2.1, .int .i64 r.2.2.2.1, .int .i64 r.2.2.2.2] 34))) hk hr hd).mono (fun e w4 ⟨h1, h2⟩ => ⟨h1, Lib.hid h2⟩))
  have KE : Hid (∀ dv X, GoI w b S M.length t M P (.slice a P.length cap) P.length dv X → ∃ (a : Option Addr) (d cap : Nat), dv = .slice a d cap ∧ d ≤ M.length ∧ X.cell? ⟨b, 1, none⟩ = some (.int .i64 (M.length : Int)) ∧ X.frozen? ⟨b, 1, none⟩ = false ∧ b < X.heap.size ∧
      Hid (Calls Tryd.prog 26 #[dv, .func (.func 27) #[] #[]] (X.setCell ⟨b, 1, none⟩ (.int .i64 ((M.length : Int) - (d : Int)))) fun e w' => e = .returned (.tuple #[]) ∧ Hid (PP (.returned (.tuple #[dv, .nilIface])) w'))) := Lib.hid (fun dv X hg => by
    obtain ⟨a', d, cap', h1, h2, h3, h4, h5, h6⟩ := go_end HI.out HP.out.1 HP.out.2.1 HP.out.2.2.1 hg
    refine ⟨a', d, cap', h1, by have := due_later M t; omega, h3, h4, h5, Lib.hid (h6.mono (fun e w' ⟨q1, q2⟩ => ⟨q1, Lib.hid (by rw [← hPP]; exact q2)⟩))⟩)
  have RD : Hid (∀ k dv X, k < P.length → GoI w b S M.length t M P (.slice a P.length cap) k dv X → ∃ bb off, a = some ⟨bb, off, none⟩ ∧ At5 X bb (off + k * 5) (P.getD k zq)) := Lib.hid (fun k dv X hk hg => by
    obtain ⟨a', cap', e', hc⟩ := hg.rd
    have hR := hg.rd
    injection e' with e1 _ _
    rcases hc with hc | ⟨bb, off, ea, _⟩
    · rw [hc] at hk; simp at hk
    · have ea2 : a = some ⟨bb, off, none⟩ := by rw [e1, ea]
      subst ea2
      exact ⟨bb, off, rfl, hR.at hk⟩)
  have ML : M.length ≤ 400 := HI.out.len
  clear hPP HP HI
  generalize hGG : GoI w b S M.length t M P (.slice a P.length cap) = GG at *
  clear hGG
  generalize M.length = m at *
  clear KT KU c2 f2
  go_wp2_with fail
  go_loopw [7, 9, 30] (fun dv _ i wr => ∃ k : Nat, k ≤ P.length ∧ i = .int .i64 k ∧ Hid (GG k dv wr)) (fun _ _ i _ => P.length - (intOf i).toNat)
  case atStart => exact ⟨0, Nat.zero_le _, rfl, HG⟩
  case round =>
    clear HG
    obtain ⟨k, hk, rfl, HG⟩ := hrel
    by_cases hlt : k < P.length
    · obtain ⟨bb, off, ea, c5⟩ := RD.out k _ wr hlt HG.out
      subst ea
      have d1 : decide ((k : Int) < (P.length : Int)) = true := decide_eq_true (by omega)
      have D1 := Lib.hid (KD.out k _ wr (P.getD k zq) HG.out hlt rfl)
      have L1 := Lib.hid (KL.out k _ wr (P.getD k zq) HG.out hlt rfl)
      generalize P.getD k zq = r at c5 D1 L1
      have cl := c5.lt
      obtain ⟨k1, k2, k3, k4, k5⟩ := c5
      by_cases hd : r.1 ≤ t
      · obtain ⟨v', w3, AP, G3⟩ := D1.out hd
        clear D1 L1
        go_wp2_with (at_builtin; refine wpl_app _ rfl _ _ _ _ rfl _ _ rfl rfl (AP.out _) ?_)
        go_roundw
        case rel => exact ⟨k + 1, by omega, by go_num, G3⟩
        case measure => simp [intOf]; omega
      · have L2 := Lib.hid (L1.out (by omega))
        clear D1 L1
        go_wp2_with (go_at_call 22; refine L2.out.mono ?_; rintro e w4 ⟨rfl, G3⟩)
        go_roundw
        case rel => exact ⟨k + 1, by omega, by go_num, G3⟩
        case measure => simp [intOf]; omega
    · obtain rfl : k = P.length := by omega
      obtain ⟨a', d, cap', ed, dm, c1, f1, b1, KS⟩ := KE.out _ wr HG.out
      subst ed
      have d1 : decide ((P.length : Int) < (P.length : Int)) = false := decide_eq_false (by omega)
      clear KD KL KE RD HG
      go_wp2_with (go_at_call 26; refine KS.out.mono ?_; rintro e w5 ⟨rfl, FI⟩)
      exact FI.out
end Go.Proofs.YtpnbnnndpbjgmaaDoor.Qu
