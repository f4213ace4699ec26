/-
  What is proved here: what an alarm that is handed in gives a walk; that the lists of an event's rule are no longer than the event is great.
-/
import Derived.Test.YtkmmncebekcegaaGreatDoorBM
namespace Go.Proofs.YtkmmncebekcegaaGreatDoor
open Go.ChangeShapes Go.WideShapes Go.ChangeAt Go.RowKit Cal Txt

section
variable {H : Type} {enc : TypeId × Value → H} {W : World}
theorem bulk_one (d : DataW H) : 1 ≤ Rows.uptoBulk d := by
  cases d with
  | lit l => cases l <;> simp [Rows.uptoBulk]
  | _ => simp [Rows.uptoBulk]
theorem bulk_len : ∀ l : List (DataW H), l.length ≤ Rows.uptoBulkAll l
  | [] => Nat.zero_le _
  | d :: l => by
    have h1 := bulk_one d
    have h2 := bulk_len l
    simp only [List.length_cons, Rows.uptoBulkAll]
    omega
theorem slice_bulk {t e : TypeId} {n : Nat} {c : Value} {x : DataW H × List MemPlace} (ht : Tryz.prog.underlying t = some (.slice e)) (h : DataW.trod enc Tryz.prog W 0 (fun _ => true) true n t [c] = some x) {a : Option Addr} {len cap : Nat} (hc : c = .slice a len cap) : len ≤ Rows.uptoBulk x.1 := by
  rcases DataW.trod_slice ht h with ⟨h0, _⟩ | ⟨a', len', cap', elems, rest, m, _, h0, rfl, _, _, _, hlen, _⟩
  · rw [hc] at h0
    simp at h0
    omega
  · rw [hc] at h0
    simp at h0
    have := bulk_len (elems.map (·.1))
    simp only [Rows.uptoBulk]
    rw [List.length_map] at this
    omega
set_option maxRecDepth 100000 in
theorem event_bulk {e : Evt} {s : Evs} {d : DataW H} {p : List MemPlace} (h : DataW.Trod enc Tryz.prog W 0 (fun _ => true) true 32 (.agg (ecells e s)) d p) (hr : EvB W e s) : e.rule.months.length + e.rule.days.length + e.rule.weeks.length + e.rule.pick.length ≤ Rows.uptoBulk d := by
  obtain ⟨fuel, hf⟩ := h
  obtain ⟨xs, m, _, hx, _, hxl, hall⟩ := DataW.trod_struct Tryz.underlying32 hf
  have hxl' : xs.length = 10 := hxl
  have h5 := hall 5 _ rfl
  obtain ⟨x0, x1, x2, x3, x4, x5, x6, x7, x8, x9, rfl⟩ : ∃ x0 x1 x2 x3 x4 x5 x6 x7 x8 x9, xs = [x0, x1, x2, x3, x4, x5, x6, x7, x8, x9] := by
    match xs, hxl' with
    | [x0, x1, x2, x3, x4, x5, x6, x7, x8, x9], _ => exact ⟨x0, x1, x2, x3, x4, x5, x6, x7, x8, x9, rfl⟩
  obtain ⟨ys, m2, _, hy, _, hyl, hall2⟩ := DataW.trod_struct Tryz.underlying28 h5
  have hyl' : ys.length = 8 := hyl
  have k4 := hall2 4 _ rfl
  have k5 := hall2 5 _ rfl
  have k6 := hall2 6 _ rfl
  have k7 := hall2 7 _ rfl
  obtain ⟨y0, y1, y2, y3, y4, y5, y6, y7, rfl⟩ : ∃ y0 y1 y2 y3 y4 y5 y6 y7, ys = [y0, y1, y2, y3, y4, y5, y6, y7] := by
    match ys, hyl' with
    | [y0, y1, y2, y3, y4, y5, y6, y7], _ => exact ⟨y0, y1, y2, y3, y4, y5, y6, y7, rfl⟩
  obtain ⟨⟨am, cm, em, _⟩, ⟨ad, cd, ed, _⟩, ⟨aw, cw, ew, _⟩, ⟨ap, cp, ep, _⟩, _⟩ := hr
  have l4 := slice_bulk (c := s.vm) Tryz.underlying25 k4 em
  have l5 := slice_bulk (c := s.vd) Tryz.underlying25 k5 ed
  have l6 := slice_bulk (c := s.vw) Tryz.underlying26 k6 ew
  have l7 := slice_bulk (c := s.vp) Tryz.underlying25 k7 ep
  have hd : d = .agg [x0.1, x1.1, x2.1, x3.1, x4.1, x5.1, x6.1, x7.1, x8.1, x9.1] := (Prod.mk.inj hx).1
  have hz : x5.1 = .agg [y0.1, y1.1, y2.1, y3.1, y4.1, y5.1, y6.1, y7.1] := by rw [hy]; rfl
  rw [hd]
  simp only [Rows.uptoBulk, Rows.uptoBulkAll]
  rw [hz]
  simp only [Rows.uptoBulk, Rows.uptoBulkAll]
  omega
set_option maxRecDepth 100000 in
theorem alarm_open {r0 : Reach} {b0 : Nat} {v : Value} {d : DataW H} {p : List MemPlace} (hv : Value.okWide Tryz.prog W r0 b0 49 v) (h : DataW.Trod enc Tryz.prog W 0 (fun _ => true) true 49 v d p) : ∃ (o : Int) (b : Bool) (r t : Int), v = .agg #[.int .i64 o, .bool b, .int .i64 r, .int .i64 t] := by
  obtain ⟨cs, rfl, hsz⟩ := okWide_struct Tryz.underlying49 hv
  obtain ⟨c0, c1, c2, c3, rfl⟩ : ∃ c0 c1 c2 c3, cs = #[c0, c1, c2, c3] := by
    have hl : cs.toList.length = 4 := (hsz.trans cellsAlm)
    obtain ⟨l⟩ := cs
    match l, hl with
    | [c0, c1, c2, c3], _ => exact ⟨c0, c1, c2, c3, rfl⟩
  obtain ⟨fuel, hf⟩ := h
  obtain ⟨xs, m, _, _, _, hxl, hall⟩ := DataW.trod_struct Tryz.underlying49 hf
  have hxl' : xs.length = 4 := hxl
  have h0 := hall 0 _ rfl
  have h1 := hall 1 _ rfl
  have h2 := hall 2 _ rfl
  have h3 := hall 3 _ rfl
  rw [List.getElem?_eq_getElem (by omega)] at h0 h1 h2 h3
  obtain ⟨o, e0, _⟩ := DataW.trod_int Tryz.underlying3 h0
  obtain ⟨b, e1, _⟩ := DataW.trod_bool Tryz.underlying4 h1
  obtain ⟨r, e2, _⟩ := DataW.trod_int Tryz.underlying3 h2
  obtain ⟨t, e3, _⟩ := DataW.trod_int Tryz.underlying3 h3
  have e0' : [c0] = [Value.int .i64 o] := e0
  have e1' : [c1] = [Value.bool b] := e1
  have e2' : [c2] = [Value.int .i64 r] := e2
  have e3' : [c3] = [Value.int .i64 t] := e3
  simp only [List.cons.injEq, and_true] at e0' e1' e2' e3'
  subst e0' e1' e2' e3'
  exact ⟨o, b, r, t, rfl⟩
end
end Go.Proofs.YtkmmncebekcegaaGreatDoor
