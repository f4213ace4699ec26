/-
  What is proved here: rows of rings that are known whole: what builtin copy, append and clear do to them (laws over the translation's types); words on what a call keeps.
-/
import Derived.Test.YtpnbnnndpbjgmaaDoorQuOrd
import Derived.Maps.AppendAt
import Derived.Lib.AppendZerosOnto
import Derived.Deep.RegionLaw
namespace Go.Proofs.YtpnbnnndpbjgmaaDoor.Qu
open Go.RowKit

/-- 'vs' laid over a row from a place on. -/
def spl (L : List Value) (o : Nat) (vs : List Value) : List Value := L.take o ++ vs ++ L.drop (o + vs.length)
theorem spl_len {L : List Value} {o : Nat} {vs : List Value} (h : o + vs.length ≤ L.length) : (spl L o vs).length = L.length := by simp [spl]; omega
theorem spl_take {L : List Value} {o : Nat} {vs : List Value} (h : o + vs.length ≤ L.length) : (spl L o vs).take (o + vs.length) = L.take o ++ vs := by
  unfold spl
  rw [List.take_append_of_le_length (by simp; omega), List.take_of_length_le (by simp; omega)]
/-- What lies below the place is as it was. -/
theorem spl_low {L : List Value} {o k : Nat} {vs : List Value} (h : k ≤ o) (hl : o ≤ L.length) : (spl L o vs).take k = L.take k := by
  unfold spl
  rw [List.append_assoc, List.take_append_of_le_length (by simp; omega), List.take_take, Nat.min_eq_left h]
/-- A row of rings lies whole in a block. -/
def Lies (w : World) (g : Nat) (L : List Value) : Prop := w.heap[g]? = some (.cells L.toArray 34 (0, 0))
theorem Lies.lt {w : World} {g : Nat} {L : List Value} (h : Lies w g L) : g < w.heap.size := by
  rcases Nat.lt_or_ge g w.heap.size with q | q
  · exact q
  · unfold Lies at h
    rw [Array.getElem?_eq_none q] at h
    cases h
theorem Lies.set {w : World} {g : Nat} {L : List Value} (h : Lies w g L) (N : List Value) : Lies (w.setRow g N.toArray) g N := setRow_heap w g _ _ _ _ h
theorem Lies.cell {w : World} {g : Nat} {L : List Value} (h : Lies w g L) {j : Nat} {u : Value} (hu : L[j]? = some u) : w.cell? ⟨g, j, none⟩ = some u := by
  unfold Lies at h
  simp [World.cell?, h, hu]
theorem Lies.frozen {w : World} {g : Nat} {L : List Value} (h : Lies w g L) (j : Nat) : w.frozen? ⟨g, j, none⟩ = false := by
  unfold Lies at h
  simp [World.frozen?, h]
theorem size_setRow (w : World) (g : Nat) (c : Array Value) : (w.setRow g c).heap.size = w.heap.size := by simp [World.setRow]
theorem size_ring : ∀ W : World, (sizeOf 34).run Tryd.prog W = .ok 5 W := fun _ => by kernel_rfl
theorem info_ring : ∃ i, Tryd.prog.info? 34 = some i ∧ i.zero = some (.agg #[.int .i64 0, .string ⟨#[]⟩, .int .i64 0, .int .i64 0, .int .i64 0]) ∧ i.size = 5 ∧ i.bytes = 48 :=
  info_parts (by kernel_rfl)
/-- copy into a row of rings. -/
theorem copy_run {w : World} {g : Nat} {L : List Value} (h : Lies w g L) (ty : TypeId) (o dLen dCap : Nat) (a : Addr) (sLen sCap : Nat) (cs : List Value) (hn : cs.length = Nat.min sLen dLen * 5)
    (hsrc : ∀ j v, cs[j]? = some v → w.cell? (a.add j) = some v) (hfit : o + cs.length ≤ L.length) (h1 : ∀ v ∈ cs, v.oneCell' = true) :
    (Builtin.copy_ #[23, 23] ty #[.slice (some ⟨g, o, none⟩) dLen dCap, .slice (some a) sLen sCap]).run Tryd.prog w = .ok (goInt (Nat.min sLen dLen)) (w.setRow g (spl L o cs).toArray) := by
  have hl := run_loadCells_list (P := Tryd.prog) w a cs hsrc
  have hst := run_storeCells_at Tryd.prog g o 34 cs 0 L.toArray w h (by simpa using hfit) h1
  rw [hn] at hl
  simp only [Nat.add_zero] at hst
  simp [Builtin.copy_, run_underlying Tryd.underlying23, Builtin.lenOf, Builtin.firstCells, hl, hst, spl]
/-- append into a row of rings that has room. -/
theorem app_run {w : World} {g : Nat} {L : List Value} (h : Lies w g L) (ty : TypeId) (n cap : Nat) (a : Addr) (m c : Nat) (news : List Value) (hl : news.length = m * 5) (hnews : ∀ j u, news[j]? = some u → w.cell? (a.add j) = some u) (h1 : ∀ u ∈ news, u.oneCell' = true)
    (hroom : n + m ≤ cap) (hfit : n * 5 + news.length ≤ L.length) :
    (Builtin.append_ #[23, 23] ty #[.slice (some ⟨g, 0, none⟩) n cap, .slice (some a) m c]).run Tryd.prog w = .ok (.slice (some ⟨g, 0, none⟩) (n + m) cap) (w.setRow g (spl L (n * 5) news).toArray) := by
  obtain ⟨i, hi, hz0, hz1, hz2⟩ := info_ring
  have := run_append_room (P := Tryd.prog) w 23 ty 34 i Tryd.underlying23 hi g n cap L.toArray h a m c news (by rw [hz1]; exact hl) hnews h1 hroom (by rw [hz1]; simpa using hfit)
  rw [hz1] at this
  simpa [spl] using this
/-- clear, at rings. -/
def zr5 : List Value := [.int .i64 0, .string ⟨#[]⟩, .int .i64 0, .int .i64 0, .int .i64 0]
def zrs (n : Nat) : List Value := (List.range (n * 5)).map (fun i => zr5.getD (i % 5) undef)
theorem zrs_len (n : Nat) : (zrs n).length = n * 5 := by simp [zrs]
theorem zrs_one (n : Nat) : ∀ v ∈ zrs n, v.oneCell' = true := fun v hv' => by
  unfold zrs at hv'
  obtain ⟨i, _, rfl⟩ := List.mem_map.1 hv'
  have : i % 5 < 5 := Nat.mod_lt _ (by decide)
  rcases (by omega : i % 5 = 0 ∨ i % 5 = 1 ∨ i % 5 = 2 ∨ i % 5 = 3 ∨ i % 5 = 4) with q | q | q | q | q <;> rw [q] <;> rfl
theorem zero_cells (n : Nat) : (Builtin.zeroCells (Value.agg zr5.toArray).cells n).toList = zrs n := by
  show (Builtin.zeroCells zr5.toArray n).toList = _
  simp only [Builtin.zeroCells, Array.toList_map, zrs]
  apply List.ext_getElem
  · simp [zr5]
  · intro i h1 h2
    have : i % 5 < 5 := Nat.mod_lt _ (by decide)
    rcases (by omega : i % 5 = 0 ∨ i % 5 = 1 ∨ i % 5 = 2 ∨ i % 5 = 3 ∨ i % 5 = 4) with q | q | q | q | q <;> simp [q, zr5]
theorem clear_run {w : World} {g : Nat} {L : List Value} (h : Lies w g L) (ty : TypeId) (o n c : Nat) (hn : 0 < n) (hfit : o + n * 5 ≤ L.length) :
    (Builtin.clear_ #[23] ty #[.slice (some ⟨g, o, none⟩) n c]).run Tryd.prog w = .ok (.tuple #[]) (w.setRow g (spl L o (zrs n)).toArray) := by
  have hv : ∀ w, (zeroValue 34).run Tryd.prog w = .ok (.agg zr5.toArray) w := fun _ => by kernel_rfl
  have hst := run_storeCells_at Tryd.prog g o 34 (zrs n) 0 L.toArray w h (by simpa [zrs_len] using hfit) (zrs_one n)
  simp only [Nat.add_zero] at hst
  obtain ⟨m, rfl⟩ : ∃ m, n = m + 1 := ⟨n - 1, by omega⟩
  simp [Builtin.clear_, run_underlying Tryd.underlying23, hv, zero_cells, hst, spl]
/-- Steps of a region that draws, where the run is known. -/
theorem step_call2 {ops : Array Oper} {o : Oper} {a : Act} {w : World} {K : Act → World → Prop} {Q : Exit → Act → World → Prop} {E : Prop}
    (hg : o.guard = none) (d x : Operand) (dT sT : TypeId) (hop : o.op = Op.call { callee := Callee.builtin Builtin.copy, args := #[d, x], argTypes := #[dT, sT] })
    (v u : Value) (hd : a.eval d = v) (hx : a.eval x = u) {v' : Value} {w' : World} (hr : (Builtin.copy_ #[dT, sT] o.type #[v, u]).run Tryd.prog w = .ok v' w') (hK : K (a.put o.dst v') w') :
    if Region.wanted o (yielded ops a.tmps) = true then Oper.wp Tryd.prog o a w K Q else E := by
  have hw : Region.wanted o (yielded ops a.tmps) = true := by simp [Region.wanted, hg]
  rw [if_pos hw]
  unfold Oper.wp
  simp [execOp, hop, resolve, invoke, builtin, hd, hx, hr, Result.andThen]
  exact hK
theorem step_app2 {ops : Array Oper} {o : Oper} {a : Act} {w : World} {K : Act → World → Prop} {Q : Exit → Act → World → Prop} {E : Prop}
    (hg : o.guard = none) (d x : Operand) (dT sT : TypeId) (hop : o.op = Op.call { callee := Callee.builtin Builtin.append, args := #[d, x], argTypes := #[dT, sT] })
    (v u : Value) (hd : a.eval d = v) (hx : a.eval x = u) {v' : Value} {w' : World} (hr : (Builtin.append_ #[dT, sT] o.type #[v, u]).run Tryd.prog w = .ok v' w') (hK : K (a.put o.dst v') w') :
    if Region.wanted o (yielded ops a.tmps) = true then Oper.wp Tryd.prog o a w K Q else E := by
  have hw : Region.wanted o (yielded ops a.tmps) = true := by simp [Region.wanted, hg]
  rw [if_pos hw]
  unfold Oper.wp
  simp [execOp, hop, resolve, invoke, builtin, hd, hx, hr, Result.andThen]
  exact hK
theorem wpl_copy (w : World) {ops : Array Oper} {rest : List Oper} {o : Oper} {a : Act} {Q : Exit → Act → World → Prop} (hgd : o.guard = none) (d s : Operand) (t t' : TypeId)
    (ho : o.op = .call { callee := .builtin .copy, args := #[d, s], argTypes := #[t, t'] }) (v u : Value) (hd : a.eval d = v) (hs : a.eval s = u) {v' : Value} {w' : World}
    (hr : (Builtin.copy_ #[t, t'] o.type #[v, u]).run Tryd.prog w = .ok v' w') (h : wpList Tryd.prog ops Q rest (a.put o.dst v') w') : wpList Tryd.prog ops Q (o :: rest) a w :=
  wpList_plain hgd fun _ hK => by
    unfold Oper.wp execOp
    simp only [ho, resolve, invoke, builtin, Sem.run_bind, Sem.run_pure, Result.andThen_ok, List.map_toArray, List.map_cons, List.map_nil, hd, hs, hr]
    exact hK _ _ h
theorem wpl_app (w : World) {ops : Array Oper} {rest : List Oper} {o : Oper} {a : Act} {Q : Exit → Act → World → Prop} (hgd : o.guard = none) (d s : Operand) (t t' : TypeId)
    (ho : o.op = .call { callee := .builtin .append, args := #[d, s], argTypes := #[t, t'] }) (v u : Value) (hd : a.eval d = v) (hs : a.eval s = u) {v' : Value} {w' : World}
    (hr : (Builtin.append_ #[t, t'] o.type #[v, u]).run Tryd.prog w = .ok v' w') (h : wpList Tryd.prog ops Q rest (a.put o.dst v') w') : wpList Tryd.prog ops Q (o :: rest) a w :=
  wpList_plain hgd fun _ hK => by
    unfold Oper.wp execOp
    simp only [ho, resolve, invoke, builtin, Sem.run_bind, Sem.run_pure, Result.andThen_ok, List.map_toArray, List.map_cons, List.map_nil, hd, hs, hr]
    exact hK _ _ h
theorem flatQ_len : ∀ M : List Rq, (M.flatMap encQ).length = M.length * 5
  | [] => by simp
  | a :: r => by rw [List.flatMap_cons, List.length_append, encQ_len, flatQ_len r, List.length_cons, Nat.succ_mul]; omega
theorem flatQ_one (M : List Rq) : ∀ u ∈ M.flatMap encQ, u.oneCell' = true := fun u hu => by
  obtain ⟨x, _, hx⟩ := List.mem_flatMap.1 hu
  exact encQ_one x u hx
theorem flatQ_take : ∀ (M : List Rq) (p : Nat), (M.flatMap encQ).take (p * 5) = (M.take p).flatMap encQ
  | [], p => by simp
  | a :: r, 0 => by simp
  | a :: r, p + 1 => by
    rw [List.take_succ_cons, List.flatMap_cons, List.flatMap_cons, List.take_append, encQ_len, List.take_of_length_le (by rw [encQ_len]; omega), show (p + 1) * 5 - 5 = p * 5 by omega, flatQ_take r p]
theorem flatQ_drop : ∀ (M : List Rq) (p : Nat), (M.flatMap encQ).drop (p * 5) = (M.drop p).flatMap encQ
  | [], p => by simp
  | a :: r, 0 => by simp
  | a :: r, p + 1 => by
    rw [List.drop_succ_cons, List.flatMap_cons, List.drop_append, encQ_len, List.drop_eq_nil_of_le (by rw [encQ_len]; omega), show (p + 1) * 5 - 5 = p * 5 by omega, flatQ_drop r p]
    simp
theorem flatQ_at : ∀ (M : List Rq) (i c : Nat), i < M.length → c < 5 → (M.flatMap encQ)[i * 5 + c]? = (encQ (M.getD i zq))[c]?
  | [], i, c, h, _ => by simp at h
  | a :: r, 0, c, _, hc => by
    rw [List.flatMap_cons, List.getElem?_append_left (by rw [encQ_len]; omega)]
    simp
  | a :: r, i + 1, c, h, hc => by
    rw [List.flatMap_cons, List.getElem?_append_right (by rw [encQ_len]; omega), encQ_len, show (i + 1) * 5 + c - 5 = i * 5 + c by omega, flatQ_at r i c (by simpa using h) hc]
    simp
/-- A row of rings that a call owns. -/
abbrev Ow (w : World) (n0 : Nat) (v : Value) (M : List Rq) : Prop := w.ownsRow n0 34 5 v M.length (M.flatMap encQ)
/-- It is none, or lies whole in a block. -/
theorem Ow.open {w : World} {n0 : Nat} {v : Value} {M : List Rq} (h : Ow w n0 v M) : (v = .slice none 0 0 ∧ M = []) ∨ ∃ g cap L, v = .slice (some ⟨g, 0, none⟩) M.length cap ∧ n0 ≤ g ∧ Lies w g L ∧ M.length ≤ cap ∧ cap ≤ 9223372036854775807 ∧ L.length = cap * 5 ∧ L.take (M.length * 5) = M.flatMap encQ := by
  rcases h.2 with ⟨hv, h0⟩ | ⟨g, cap, cur, hv, hb, hg, hn, hm, hs, ht⟩
  · exact Or.inl ⟨hv, List.eq_nil_of_length_eq_zero h0⟩
  · exact Or.inr ⟨g, cap, cur.toList, hv, hb, by simpa [Lies] using hg, hn, by unfold maxLen at hm; omega, by simpa using hs, ht⟩
theorem Ow.make {w : World} {n0 g cap : Nat} {M : List Rq} {L : List Value} (hb : n0 ≤ g) (h : Lies w g L) (hn : M.length ≤ cap) (hm : cap ≤ 9223372036854775807) (hl : L.length = cap * 5) (ht : L.take (M.length * 5) = M.flatMap encQ) : Ow w n0 (.slice (some ⟨g, 0, none⟩) M.length cap) M :=
  ⟨flatQ_len M, .inr ⟨g, cap, L.toArray, rfl, hb, h, hn, by unfold maxLen; omega, by simpa using hl, by simpa using ht⟩⟩
theorem grown_setRow (w : World) (g : Nat) (c : Array Value) : w.grownBy (w.setRow g c) (some g) := ⟨rfl, rfl, rfl, by simp [World.setRow], fun k _ hk => setRow_other w g k c (fun e => hk (by rw [e]))⟩
theorem grown_drew {w w' : World} {r : Option Nat} (h : w.grownBy w' r) : w.grownBy w'.drew r := ⟨h.os, h.tape, h.output, h.size, h.block⟩
theorem grown_of_drew {w w' : World} {r : Option Nat} (h : w.drew.grownBy w' r) : w.grownBy w' r := ⟨h.os, h.tape, h.output, h.size, h.block⟩
theorem grown_tr {a b c : World} {r : Option Nat} (h : a.grownBy b r) (k : b.grownBy c r) : a.grownBy c r :=
  ⟨k.os.trans h.os, k.tape.trans h.tape, k.output.trans h.output, Nat.le_trans h.size k.size, fun j hj hr => (k.block j (Nat.lt_of_lt_of_le hj h.size) hr).trans (h.block j hj hr)⟩
theorem grown_refl (w : World) (r : Option Nat) : w.grownBy w r := ⟨rfl, rfl, rfl, Nat.le_refl _, fun _ _ _ => rfl⟩
theorem grown_below {a b : World} (h : Below a.heap.size a b) (r : Option Nat) : a.grownBy b r := ⟨h.os, h.tape, h.output, h.size, fun k hk _ => h.block k hk⟩
end Go.Proofs.YtpnbnnndpbjgmaaDoor.Qu
