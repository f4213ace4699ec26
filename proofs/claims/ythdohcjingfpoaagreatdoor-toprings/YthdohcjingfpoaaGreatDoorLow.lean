/-
  What is proved here: small words that all contracts share: on answers, errors, texts, and on what a walk carries from call to call of a date or a weekday in its block.
-/
import Derived.Test.YthdohcjingfpoaaGreatDoorProg
import Derived.Test.YthdohcjingfpoaaGreatDoorPU
import Derived.WalkKit
import Derived.WalkSpells
import Derived.RowKit3
import Derived.Deep.QuietTactic
import Derived.BigQuiet
import Derived.WalkSmall
import Derived.Lib.Hide
namespace Go.Proofs.YthdohcjingfpoaaGreatDoor
open Go.RowKit Cal

theorem ret_bool {a b : Bool} (h : a = b) : Ending.returned (.bool a) = .returned (.bool b) := by rw [h]
theorem ret_int {k : IntKind} {a b : Int} (h : a = b) : Ending.returned (.int k a) = .returned (.int k b) := by rw [h]
/-- What is told of a number that is none. -/
abbrev errRange : Value := .iface 86 (.int .i64 1)
/-- The error of a fault. -/
def fault (k : Int) : Value := if k = 0 then .nilIface else .iface 86 (.int .i64 k)
/-- The date that is none. -/
abbrev noDate : Value := .agg #[.int .i64 0, .int .i64 0, .int .i64 0]
theorem bcell {W w1 : World} (hb : Below W.heap.size W w1) : (∀ b o, b < W.heap.size → w1.cell? ⟨b, o, none⟩ = W.cell? ⟨b, o, none⟩) ∧ (∀ b o, b < W.heap.size → w1.frozen? ⟨b, o, none⟩ = W.frozen? ⟨b, o, none⟩) :=
  ⟨fun b o h => hb.cell (p := ⟨b, o, none⟩) h, fun b o h => hb.frozen (p := ⟨b, o, none⟩) h⟩
/-- A date lies in a block. -/
def Dat (W : World) (b : Nat) (y m d : Int) : Prop := W.cell? ⟨b, 0, none⟩ = some (.int .i64 y) ∧ W.cell? ⟨b, 1, none⟩ = some (.int .i64 m) ∧ W.cell? ⟨b, 2, none⟩ = some (.int .i64 d)
theorem Dat.lt {W : World} {b : Nat} {y m d : Int} (h : Dat W b y m d) : b < W.heap.size := by
  have k := h.1
  rcases Nat.lt_or_ge b W.heap.size with q | q
  · exact q
  · simp [World.cell?, Array.getElem?_eq_none q] at k
theorem Dat.on {W W' : World} {b : Nat} {y m d : Int} (h : Dat W b y m d) (k : Below W.heap.size W W') : Dat W' b y m d :=
  ⟨(k.cell (p := ⟨b, 0, none⟩) h.lt).trans h.1, (k.cell (p := ⟨b, 1, none⟩) h.lt).trans h.2.1, (k.cell (p := ⟨b, 2, none⟩) h.lt).trans h.2.2⟩
theorem Dat.alloc {W : World} {b : Nat} {y m d : Int} (h : Dat W b y m d) (o : Obj) : Dat (W.alloc o) b y m d := h.on ((Below.refl _ _).alloc (Nat.le_refl _) _)
theorem Dat.new (W : World) (y m d : Int) (t : TypeId) : Dat (W.alloc (.cells #[.int .i64 y, .int .i64 m, .int .i64 d] t)) W.heap.size y m d := ⟨by simp, by simp, by simp⟩

theorem below_same {P : Program} {f : FuncId} {args : Array Value} {w : World} {v : Value} (h : Calls P f args w fun e w' => e = .returned v ∧ w' = w) : Calls P f args w fun e w' => e = .returned v ∧ Below w.heap.size w w' :=
  h.mono fun _ _ ⟨he, hw⟩ => ⟨he, by rw [hw]; exact Below.refl _ _⟩
/-- A weekday with its number lies in a block. -/
def Two (W : World) (b : Nat) (N k : Int) : Prop := W.cell? ⟨b, 0, none⟩ = some (.int .i64 N) ∧ W.cell? ⟨b, 1, none⟩ = some (.int .i64 k)
theorem Two.lt {W : World} {b : Nat} {N k : Int} (h : Two W b N k) : b < W.heap.size := by
  have k := h.1
  rcases Nat.lt_or_ge b W.heap.size with q | q
  · exact q
  · simp [World.cell?, Array.getElem?_eq_none q] at k
theorem Two.on {W W' : World} {b : Nat} {N k : Int} (h : Two W b N k) (q : Below W.heap.size W W') : Two W' b N k :=
  ⟨(q.cell (p := ⟨b, 0, none⟩) h.lt).trans h.1, (q.cell (p := ⟨b, 1, none⟩) h.lt).trans h.2⟩
theorem Two.new (W : World) (N k : Int) (t : TypeId) : Two (W.alloc (.cells #[.int .i64 N, .int .i64 k] t)) W.heap.size N k := ⟨by simp, by simp⟩

theorem Two.alloc {W : World} {b : Nat} {N k : Int} (h : Two W b N k) (o : Obj) : Two (W.alloc o) b N k := h.on ((Below.refl _ _).alloc (Nat.le_refl _) _)
/-! Texts. -/
theorem ba_app (a b : List UInt8) : (⟨a.toArray⟩ : ByteArray) ++ ⟨b.toArray⟩ = ⟨(a ++ b).toArray⟩ := by
  apply ByteArray.ext; simp
theorem ret_ba {a b : ByteArray} (h : a = b) : Ending.returned (.string a) = .returned (.string b) := by rw [h]
theorem ret_str {a b : List UInt8} (h : a = b) : Ending.returned (.string ⟨a.toArray⟩) = .returned (.string ⟨b.toArray⟩) := by rw [h]
theorem take_snoc (s : ByteArray) (k : Nat) (h : k < s.size) : s.data.toList.take (k + 1) = s.data.toList.take k ++ [s[k]] := by
  rw [List.take_succ_eq_append_getElem (by simpa using h)]; rfl
theorem mem_at (s : ByteArray) (k : Nat) (h : k < s.size) : s[k] ∈ s.data.toList := by
  have : s[k] = s.data.toList[k]'(by simpa using h) := rfl
  rw [this]; exact List.getElem_mem _
theorem size_len (s : ByteArray) : s.data.toList.length = s.size := rfl
theorem byte_eq {a c : UInt8} {ci : Int} (hc : (c.toNat : Int) = ci) : a = c ↔ (a.toNat : Int) = ci := by
  constructor
  · intro h; rw [h]; exact hc
  · intro h; apply UInt8.toNat_inj.1; omega
theorem ret_two {a b c d : Int} (h : a = c) (g : b = d) : Ending.returned (.tuple #[.int .i64 a, .int .i64 b]) = .returned (.tuple #[.int .i64 c, .int .i64 d]) := by rw [h, g]
end Go.Proofs.YthdohcjingfpoaaGreatDoor
