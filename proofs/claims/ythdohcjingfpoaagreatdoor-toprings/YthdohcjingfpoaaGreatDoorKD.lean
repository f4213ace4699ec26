/-
  What is proved here: what is looked up in a desk's map; what (*desk.Desk).has and drop answer (contracts over the translation).
  What is proved here: a desk behind a change of its map; what (*desk.Desk).drop answers (a contract over the translation).
  What is proved here: what (*desk.Desk).done answers (a contract over the translation).
  What is proved here: what (*desk.Desk).checkTick answers (a contract over the translation).
-/
import Derived.Test.YthdohcjingfpoaaGreatDoorKC
import Derived.Test.YthdohcjingfpoaaGreatDoorEvSet
import Derived.Maps.OwnOps
import Derived.Deep.RegionHeld3
namespace Go.Proofs.YthdohcjingfpoaaGreatDoor.Dk
open Go.RowKit Qu Go.Maps

abbrev noE : Evt := ⟨⟨#[]⟩, ⟨#[]⟩, 0, 0, false, noRl, [], [], [], []⟩
abbrev noS : Evs := ⟨.slice none 0 0, .slice none 0 0, .slice none 0 0, .slice none 0 0, .slice none 0 0, .slice none 0 0, .slice none 0 0, .slice none 0 0⟩
theorem zero_ev (w : World) : (zeroValue 40).run Tryz.prog w = .ok (evV (noE, noS)) w := by kernel_rfl
theorem one_of {e : Evt} {s : Evs} {w : World} (h : EvB w e s) : (ecells e s).all (·.oneCell') = true := by
  obtain ⟨⟨_, _, h1, _⟩, ⟨_, _, h2, _⟩, ⟨_, _, h3, _⟩, ⟨_, _, h4, _⟩, ⟨_, _, h5, _⟩, ⟨_, _, h6, _⟩, ⟨_, _, h7, _⟩, ⟨_, _, h8, _⟩⟩ := h
  rw [ecells, h1, h2, h3, h4, h5, h6, h7, h8]
  simp [Value.oneCell']
variable {w w' : World} {b : Nat} {D : Ds} {R : Raw}
/-- What a look-up gives is an event's value. -/
theorem Dm.look (h : Dm w b D R) {nm : ByteArray} {v : Value} {ps : List MemPlace} (hv : tokR v = some ((evD R.le).atKey (nk nm) (.held (evV (noE, noS))), ps)) : ∃ e s, v = .agg (ecells e s) ∧ (ecells e s).all (·.oneCell') = true ∧ ((hasE nm D.ev = true ∧ (e, s) ∈ R.le ∧ e.name = nm) ∨ (hasE nm D.ev = false ∧ e = noE ∧ s = noS)) := by
  unfold tokR at hv
  have h1 := congrArg (fun o => o.map Prod.fst) hv
  simp only [Option.map_some, Option.some.injEq] at h1
  rw [evD_at] at h1
  rcases hf : fndE nm R.le with _ | p
  · rw [hf] at h1
    injection h1 with h1
    refine ⟨noE, noS, h1, by simp [Value.oneCell'], Or.inr ⟨?_, rfl, rfl⟩⟩
    unfold fndE at hf
    rw [List.find?_eq_none] at hf
    unfold hasE
    rw [List.any_eq_false, ← h.le]
    intro x hx
    obtain ⟨p, hp, rfl⟩ := List.mem_map.1 hx
    exact hf p hp
  · rw [hf] at h1
    injection h1 with h1
    have hm := List.mem_of_find?_eq_some hf
    have hp := List.find?_some hf
    simp only [decide_eq_true_eq] at hp
    refine ⟨p.1, p.2, h1, one_of (h.evs p hm).now, Or.inl ⟨?_, hm, hp⟩⟩
    unfold hasE
    rw [List.any_eq_true, ← h.le]
    exact ⟨p.1, List.mem_map_of_mem hm, decide_eq_true hp⟩
theorem key_nk {nm : ByteArray} (hn : nm.size ≤ maxLen) : keyOf Tryz.prog 9 (.string nm) = some (nk nm) := Go.WideMaps.keyOf_string_mk Tryz.underlying9 hn
set_option maxRecDepth 100000 in
set_option maxHeartbeats 2000000 in
theorem dhas_any (nm : ByteArray) (hn : nm.size ≤ maxLen) (h : Dm w b D R) :
    Calls Tryz.prog 63 #[.pointer (some ⟨b, 0, none⟩), .string nm] w fun e w' => e = .returned (.bool (hasE nm D.ev)) ∧ Below w.heap.size w w' := by
  obtain ⟨_, _, c2, _⟩ := h.cells
  have bl := h.lt
  have hm := h.map
  have hk := key_nk hn
  have HH : Hid (Maps.has (evD R.le) (nk nm) = hasE nm D.ev) := Lib.hid (by rw [evD_has, h.le])
  have HL := Lib.hid (fun (v : Value) (ps : List MemPlace) (q : tokR v = some ((evD R.le).atKey (nk nm) (.held (evV (noE, noS))), ps)) => h.look q)
  clear h hn
  go_enter Tryz.func63, Tryz.ntmps63
  go_wp2_with (first | (at_lookup; refine wpList_lookup_own_ok _ rfl _ _ 80 rfl 9 40 law Tryz.underlying80 tokR (zero_ev _) (.held (evV (noE, noS))) [] rfl R.bm R.le.length (evD R.le) rfl hm _ _ rfl hk ?_; intro v ps hv; rw [HH.out]; obtain ⟨e, s, rfl, oc, _⟩ := HL.out v ps hv; have OC := Lib.hid oc; clear oc hv HL) | (refine ev_store ?h1 (.tmp 5) (.tmp 14) ?h2 w.heap.size _ _ ?h3 rfl e s ?h4 ?h5 ?h6 ?h7; (case h1 => rfl); (case h2 => rfl); (case h3 => rfl); (case h4 => exact OC.out); (case h5 => rfl); (case h6 => rfl); intro W1 r1 b1; have B1 := Lib.hid b1; clear r1 b1))
  go_ret
  exact ⟨rfl, B1.out⟩
end Go.Proofs.YthdohcjingfpoaaGreatDoor.Dk
namespace Go.Proofs.YthdohcjingfpoaaGreatDoor.Dk
open Go.RowKit Qu Go.Maps

variable {w w' W : World} {b : Nat} {D : Ds} {R : Raw}
theorem own_len {k : TypeId} {m n : Nat} {l : List Ev} (h : w.ownsMap Tryz.prog k tokR m n (evD l)) : w.ownsMap Tryz.prog k tokR m l.length (evD l) := by
  have hs := evD_size l
  obtain ⟨es, c, hb, F, _, hD⟩ := h
  rw [hD] at hs
  refine ⟨es, c, hb, F, ?_, hD⟩
  rw [← hs]
  simp [Maps.size, length_sorted]
/-- Its map is another one. -/
theorem Dm.putM (h : Dm W b D R) {n : Nat} {le' : List Ev} {ev' : List Evt} {S' : Nat → Prop} (hg : W.grownBy w' (some R.bm)) (hm : w'.ownsMap Tryz.prog 9 tokR R.bm n (evD le')) (he : le'.map Prod.fst = ev') (hS : ∀ k, R.S k → S' k) (hS2 : ∀ k, S' k → k < W.heap.size ∧ ¬ Fd b R k)
    (hp : ∀ p ∈ le', p ∈ R.le ∨ Sup S' W (fun X => EvB X p.1 p.2)) : Dm w' b { D with ev := ev' } { R with le := le', S := S' } := by
  have bk : ∀ k, k < W.heap.size → k ≠ R.bm → w'.heap[k]? = W.heap[k]? := fun k hk hn => hg.block k hk (fun e => hn (by injection e))
  have qs : ∀ k, S' k → w'.heap[k]? = W.heap[k]? := fun k hk => bk k (hS2 k hk).1 (fun e => (hS2 k hk).2 (Or.inr (Or.inl e)))
  refine ⟨(bk b h.lt (fun e => h.ne_map e.symm)).trans h.box, own_len hm, he, own_on h.rung (fun g hg2 => bk g (h.rung.lt g hg2).2 (h.ne_row h.rung hg2).2), own_on h.snz (fun g hg2 => bk g (h.snz.lt g hg2).2 (h.ne_row h.snz hg2).2), h.apart, fun k hk => ⟨Nat.lt_of_lt_of_le (hS2 k hk).1 hg.size, (hS2 k hk).2⟩, ?_, fun p hp2 => ?_⟩
  · exact h.zone.on hg.size (fun k hk => qs k (hS k hk)) hS
  · rcases hp p hp2 with z | z
    · exact (h.evs p z).on hg.size (fun k hk => qs k (hS k hk)) hS
    · exact z.on hg.size qs (fun _ h => h)
theorem Kd.putM {R0 : Raw} {le' : List Ev} {S' : Nat → Prop} (hk : Kd b R0 R w W) (hg : W.grownBy w' (some R.bm)) (hS3 : ∀ k, S' k → (Fd b R0 k ∨ R0.S k) ∨ w.heap.size ≤ k) : Kd b R0 { R with le := le', S := S' } w w' :=
  ⟨hg.os.trans hk.os, hg.tape.trans hk.tape, hg.output.trans hk.output, Nat.le_trans hk.size hg.size, fun k hlt hn => (hg.block k (Nat.lt_of_lt_of_le hlt hk.size) (fun e => by
    have e2 : k = R.bm := by injection e
    rcases hk.fd k (Or.inr (Or.inl e2)) with z | z
    · exact hn z
    · omega)).trans (hk.block k hlt hn), fun k hk2 => by
    rcases hk2 with z | z
    · exact hk.own k (Or.inl z)
    · exact hS3 k z, hk.fd⟩
/-- A desk without the rings of a name, and without its event. -/
def Ds.forget (D : Ds) (nm : ByteArray) : Ds := { D with rung := D.rung.filter (fun x => !decide (x.2.1 = nm)), snz := D.snz.filter (fun x => !decide (x.2.1 = nm)) }
def Ds.drop (D : Ds) (nm : ByteArray) : Ds := { D.forget nm with ev := outE id nm D.ev }
set_option maxRecDepth 100000 in
set_option maxHeartbeats 2000000 in
theorem ddrop_any (nm : ByteArray) (hn : nm.size ≤ maxLen) (h : Dm w b D R) (h1 : D.rung.length ≤ 1000000) (h2 : D.snz.length ≤ 1000000) :
    Calls Tryz.prog 30 #[.pointer (some ⟨b, 0, none⟩), .string nm] w fun e w' => e = .returned (fault (if hasE nm D.ev = true then 0 else 5)) ∧ ∃ R', Dm w' b (if hasE nm D.ev = true then D.drop nm else D) R' ∧ Kd b R R' w w' := by
  have KH := Lib.hid (dhas_any nm hn h)
  have HH := Lib.hid h
  rcases hc : hasE nm D.ev with _ | _
  · rw [hc] at KH
    have bl := h.lt
    have FI : Hid (∀ W, Below w.heap.size w W → ∃ R', Dm W b (if false = true then D.drop nm else D) R' ∧ Kd b R R' w W) := Lib.hid (fun W q => ⟨R, h.onB q, Kd.of_below b R q⟩)
    clear h
    go_enter Tryz.func30, Tryz.ntmps30
    go_wp2_with fail
    refine KH.out.mono ?_
    rintro e w1 ⟨rfl, hb⟩
    have F1 := Lib.hid (FI.out w1 hb)
    clear hb KH FI HH
    go_wp2
    go_ret
    exact ⟨rfl, F1.out⟩
  · rw [hc] at KH
    have bl := h.lt
    have hk := key_nk hn
    have KF : Hid (∀ W, Below w.heap.size w W → Calls Tryz.prog 64 #[.pointer (some ⟨b, 0, none⟩), .string nm] W fun e w' => e = .returned (.tuple #[]) ∧ ∃ R', b < w'.heap.size ∧ w'.cell? ⟨b, 2, none⟩ = some (.map (some R'.bm)) ∧ w'.ownsMap Tryz.prog 9 tokR R'.bm R'.le.length (evD R'.le) ∧ Hid (Dm w' b (D.forget nm) R') ∧ Hid (Kd b R R' w w')) := Lib.hid (fun W q =>
      (forget_any nm (h.onB q) h1 h2).mono (fun e w' ⟨he, R', hd, hk, _⟩ => ⟨he, R', hd.lt, hd.cells.2.2.1, hd.map, Lib.hid hd, Lib.hid ((Kd.of_below b R q).trans hk)⟩))
    clear h HH
    go_enter Tryz.func30, Tryz.ntmps30
    go_wp2_with fail
    refine KH.out.mono ?_
    rintro e w1 ⟨rfl, hb⟩
    have K2 := Lib.hid (KF.out w1 hb)
    clear hb KH KF
    go_wp2_with fail
    refine K2.out.mono ?_
    rintro e w2 ⟨rfl, R2, l2, c2, hm, hD, hK⟩
    clear K2 bl
    go_wp2_with (at_delete; refine wpList_delete_own _ rfl _ _ 80 9 rfl 40 law Tryz.underlying80 tokR R2.bm R2.le.length (evD R2.le) rfl hm _ _ rfl hk ?_; intro w3 hm3 ht3; have HM3 := Lib.hid hm3; have HT3 := Lib.hid ht3; clear hm3 ht3 hm c2)
    go_ret
    have hm3 := HM3.out
    rw [evD_del] at hm3
    refine ⟨rfl, _, hD.out.putM HT3.out.grown hm3 (by rw [outE_map, hD.out.le]; rfl) (fun _ h => h) hD.out.sin (fun p hp => Or.inl (outE_mem.1 hp).1), hK.out.putM HT3.out.grown (fun k hk => hK.out.own k (Or.inr hk))⟩
end Go.Proofs.YthdohcjingfpoaaGreatDoor.Dk
namespace Go.Proofs.YthdohcjingfpoaaGreatDoor.Dk
open Go.RowKit Qu Go.Maps

variable {w w' W : World} {b : Nat} {D : Ds} {R : Raw}
theorem drp_not {M : List Rq} {r : Rq} (h : r ∉ M) : drp M r = M := by
  unfold drp
  rw [List.filter_eq_self]
  intro x hx
  have : ¬ oc x r = 0 := fun e => h (by rw [← (oc_cm.eq x r).1 e]; exact hx)
  simpa using this
/-- A desk without a ring that has rung. -/
def Ds.don (D : Ds) (r : Rq) : Ds := { D with rung := drp D.rung r }
def donF (M : List Rq) (r : Rq) : Int := if hasQ M r = true then 0 else 5
/-- What is answered where nothing but an error is told. -/
def DoA (f : Int) (D' : Ds) (b : Nat) (R : Raw) (w : World) (e : Ending) (w' : World) : Prop := e = .returned (fault f) ∧ ∃ R', Dm w' b D' R' ∧ Kd b R R' w w'
set_option maxRecDepth 100000 in
set_option maxHeartbeats 2000000 in
theorem ddone_any (r : Rq) (h : Dm w b D R) (hr : Rs D.rung) (h1 : D.rung.length ≤ 1000000) :
    Calls Tryz.prog 32 #[.pointer (some ⟨b, 0, none⟩), agQ r] w (DoA (donF D.rung r) (D.don r) b R w) := by
  obtain ⟨W0, hW0⟩ : ∃ W0, W0 = w.alloc (.cells #[.int .i64 r.1, .string r.2.1, .int .i64 r.2.2.1, .int .i64 r.2.2.2.1, .int .i64 r.2.2.2.2] 45) := ⟨_, rfl⟩
  have b0 : Below w.heap.size w W0 := by rw [hW0]; exact below_alloc _ _
  have x0 : QBx W0 w.heap.size r := by rw [hW0]; exact QBx.new w r _
  have HS : Hid (∀ X, Below W0.heap.size W0 X → (fun X => X.cell? ⟨b, 4, none⟩ = some R.ru ∧ X.cell? ⟨w.heap.size, 0, none⟩ = some (.int .i64 r.1) ∧ X.cell? ⟨w.heap.size, 1, none⟩ = some (.string r.2.1) ∧ X.cell? ⟨w.heap.size, 2, none⟩ = some (.int .i64 r.2.2.1) ∧ X.cell? ⟨w.heap.size, 3, none⟩ = some (.int .i64 r.2.2.2.1) ∧ X.cell? ⟨w.heap.size, 4, none⟩ = some (.int .i64 r.2.2.2.2)) X) := Lib.hid (fun X q => ⟨((h.onB b0).onB q).cells.2.2.2.2.1, x0.on q⟩)
  have HD : Hid (∀ X, Below W0.heap.size W0 X → Dm X b D R ∧ Kd b R R w X) := Lib.hid (fun X q => ⟨(h.onB b0).onB q, (Kd.of_below b R b0).trans (Kd.of_below b R q)⟩)
  have KB : Hid (∀ X, Below W0.heap.size W0 X → Calls Tryz.prog 71 #[R.ru, agQ r] X fun e w' => ∃ p : Nat, Hid (Fnd D.rung r p) ∧ e = .returned (.tuple #[.int .i64 p, .bool (hasQ D.rung r)]) ∧ Below W0.heap.size W0 w') := Lib.hid (fun X q =>
    (dfind_any D.rung r R.ru X ((h.onB b0).onB q).rung.rd hr h1).mono (fun e w' ⟨p, h1, h2, h3⟩ => ⟨p, Lib.hid h1, h2, q.trans (h3.mono q.size)⟩))
  have bl : b < w.heap.size := h.lt
  have HQ := Lib.hid (hasQ_iff (M := D.rung) (r := r))
  have HN := Lib.hid (hasQ_not (M := D.rung) (r := r))
  have HW := Lib.hid hW0
  obtain ⟨c0, x1, x2, x3, x4, x5⟩ := HS.out W0 (Below.refl _ _)
  have bl0 : b < W0.heap.size := cell_in c0
  have bl1 : w.heap.size < W0.heap.size := cell_in x1
  have RS := Lib.hid hr
  have RL := Lib.hid h1
  clear h hW0 b0 x0 hr h1
  go_enter Tryz.func32, Tryz.ntmps32
  go_upto_region 1 with fail
  rw [← HW.out]
  go_region_held3 (fun X => X.cell? ⟨b, 4, none⟩ = some R.ru ∧ X.cell? ⟨w.heap.size, 0, none⟩ = some (.int .i64 r.1) ∧ X.cell? ⟨w.heap.size, 1, none⟩ = some (.string r.2.1) ∧ X.cell? ⟨w.heap.size, 2, none⟩ = some (.int .i64 r.2.2.1) ∧ X.cell? ⟨w.heap.size, 3, none⟩ = some (.int .i64 r.2.2.2.1) ∧ X.cell? ⟨w.heap.size, 4, none⟩ = some (.int .i64 r.2.2.2.2))
    (first | exact HS.out _ (Below.drew (Below.refl _ W0)) | exact HS.out _ hb6)
    (first | (go_at_call 71; refine (KB.out _ (Below.drew (Below.refl _ W0))).mono ?_; rintro e w2 ⟨p, hf, rfl, hb6⟩))
  obtain ⟨hd, hk⟩ := HD.out w2 hb6
  have KD := Lib.hid hk
  have HD2 := Lib.hid hd
  have c4 := hd.cells.2.2.2.2.1
  have bl2 := hd.lt
  clear c0 x1 x2 x3 x4 x5 HS KB HD hd hk hb6 HW bl0 bl1
  rcases hc : hasQ D.rung r with _ | _
  · have FI : Hid (∃ R', Dm w2 b (D.don r) R' ∧ Kd b R R' w w2) := Lib.hid ⟨R, by unfold Ds.don; rw [drp_not (HN.out.1 hc)]; exact HD2.out, KD.out⟩
    have E : Hid (fault (donF D.rung r) = .iface 86 (.int .i64 5)) := Lib.hid (by unfold donF; rw [hc]; rfl)
    go_wp2
    go_ret
    exact ⟨congrArg Ending.returned E.out.symm, FI.out⟩
  · obtain ⟨hp, hdl⟩ := drp_del RS.out hf.out (HQ.out.1 hc)
    have K3 : Hid (Calls Tryz.prog 72 #[R.ru, .int .i64 p, .int .i64 ((p : Int) + 1)] w2 fun e w' => ∃ u x n c, u = .slice x n c ∧ e = .returned u ∧ b < w'.heap.size ∧ w'.cell? ⟨b, 4, none⟩ = some R.ru ∧ w'.frozen? ⟨b, 4, none⟩ = false ∧ Hid (∃ R', Dm (w'.setCell ⟨b, 4, none⟩ u) b (D.don r) R' ∧ Kd b R R' w (w'.setCell ⟨b, 4, none⟩ u))) := Lib.hid
      ((delete_any D.rung p 0 R.ru w2 HD2.out.rung hp).mono (fun e w' ⟨u, he, ho, hu, hg⟩ => by
        rw [hdl] at ho
        obtain ⟨q1, q2, q3, q4⟩ := HD2.out.putR hg ho (fun g hg2 => Or.inl (by rw [← hu]; exact hg2))
        obtain ⟨x, c, hs, _⟩ := ho.rd
        exact ⟨u, x, _, c, hs, he, cell_in q1, q1, q2, Lib.hid ⟨_, q3, KD.out.trans q4⟩⟩))
    have q0 : IntKind.i64.wrap ((p : Int) + 1) = (p : Int) + 1 := by
      have := RL.out
      rw [IntKind.wrap_i64]; omega
    clear hf hdl RS HQ HN
    go_wp2_with fail
    refine K3.out.mono ?_
    rintro e w3 ⟨_, x, n, c, rfl, rfl, l3, k3, f3, FI⟩
    clear K3 c4 HD2 KD
    have E : Hid (fault (donF D.rung r) = .nilIface) := Lib.hid (by unfold donF; rw [hc]; rfl)
    go_wp2
    go_ret
    exact ⟨congrArg Ending.returned E.out.symm, FI.out⟩
end Go.Proofs.YthdohcjingfpoaaGreatDoor.Dk
namespace Go.Proofs.YthdohcjingfpoaaGreatDoor.Dk
open Go.RowKit Qu Go.Maps

variable {w w' W : World} {b : Nat} {D : Ds} {R : Raw}
/-- What is wrong with a time to tick to; 0: nothing. -/
def tkF (now t : Int) : Int := if ist t = false then 1 else if t ≤ now then 6 else if ¬ now = 0 ∧ 1000000 < t - now then 1 else 0
theorem tkF_zero {now t : Int} : tkF now t = 0 ↔ ist t = true ∧ now < t ∧ (now = 0 ∨ t - now ≤ 1000000) := by
  unfold tkF
  rcases ist t with _ | _
  · simp
  · by_cases h : t ≤ now
    · simp [h]; omega
    · by_cases q : ¬ now = 0 ∧ 1000000 < t - now
      · simp [h, q]
      · simp [h, q]; omega
theorem ist_iff {t : Int} : ist t = true ↔ 1 ≤ t ∧ t ≤ 157785119 := by unfold ist; simp
set_option maxHeartbeats 1000000 in
theorem dcheck_any (t : Int) (h : Dm w b D R) (h0 : 0 ≤ D.now) (h1 : D.now ≤ 157785119) :
    Calls Tryz.prog 66 #[.pointer (some ⟨b, 0, none⟩), .int .i64 t] w fun e w' => e = .returned (fault (tkF D.now t)) ∧ w' = w := by
  obtain ⟨_, _, _, c3, _⟩ := h.cells
  have l := h.lt
  clear h
  rcases hi : ist t with _ | _
  · have E : Hid (fault (tkF D.now t) = .iface 86 (.int .i64 1)) := Lib.hid (by unfold tkF; rw [if_pos hi]; rfl)
    generalize fault (tkF D.now t) = F at E ⊢
    go_enter Tryz.func66, Tryz.ntmps66
    go_wp2_with (go_at_call 51; refine (isTime_any _ _).mono ?_; rintro e w' ⟨rfl, rfl⟩; rw [hi])
    go_ret
    exact ⟨congrArg Ending.returned E.out.symm, rfl⟩
  · have ht := ist_iff.1 hi
    have hn : ¬ ist t = false := by rw [hi]; decide
    have q0 : IntKind.i64.wrap (t - D.now) = t - D.now := by rw [IntKind.wrap_i64]; omega
    by_cases q1 : t ≤ D.now
    · have E : Hid (fault (tkF D.now t) = .iface 86 (.int .i64 6)) := Lib.hid (by unfold tkF; rw [if_neg hn, if_pos q1]; rfl)
      generalize fault (tkF D.now t) = F at E ⊢
      go_enter Tryz.func66, Tryz.ntmps66
      go_wp2_with (go_at_call 51; refine (isTime_any _ _).mono ?_; rintro e w' ⟨rfl, rfl⟩; rw [hi])
      go_ret
      exact ⟨congrArg Ending.returned E.out.symm, rfl⟩
    · by_cases q2 : D.now = 0
      · have E : Hid (fault (tkF D.now t) = .nilIface) := Lib.hid (by unfold tkF; rw [if_neg hn, if_neg q1, if_neg (fun q => q.1 q2)]; rfl)
        generalize fault (tkF D.now t) = F at E ⊢
        go_enter Tryz.func66, Tryz.ntmps66
        go_wp2_with (go_at_call 51; refine (isTime_any _ _).mono ?_; rintro e w' ⟨rfl, rfl⟩; rw [hi])
        go_ret
        exact ⟨congrArg Ending.returned E.out.symm, rfl⟩
      · by_cases q3 : 1000000 < t - D.now
        · have E : Hid (fault (tkF D.now t) = .iface 86 (.int .i64 1)) := Lib.hid (by unfold tkF; rw [if_neg hn, if_neg q1, if_pos ⟨q2, q3⟩]; rfl)
          generalize fault (tkF D.now t) = F at E ⊢
          go_enter Tryz.func66, Tryz.ntmps66
          go_wp2_with (go_at_call 51; refine (isTime_any _ _).mono ?_; rintro e w' ⟨rfl, rfl⟩; rw [hi])
          go_ret
          exact ⟨congrArg Ending.returned E.out.symm, rfl⟩
        · have E : Hid (fault (tkF D.now t) = .nilIface) := Lib.hid (by unfold tkF; rw [if_neg hn, if_neg q1, if_neg (fun q => q3 q.2)]; rfl)
          generalize fault (tkF D.now t) = F at E ⊢
          go_enter Tryz.func66, Tryz.ntmps66
          go_wp2_with (go_at_call 51; refine (isTime_any _ _).mono ?_; rintro e w' ⟨rfl, rfl⟩; rw [hi])
          go_ret
          exact ⟨congrArg Ending.returned E.out.symm, rfl⟩
end Go.Proofs.YthdohcjingfpoaaGreatDoor.Dk
