/-
  What is proved here: what package month's Leaf answers (contracts over the translation); the table of months is asked as a premise.
-/
import Derived.Test.YtikpfeaidgeebaaDoorMoLeaf
import Derived.Test.YtikpfeaidgeebaaDoorMoEnds
import Derived.Shelf.Abstract
namespace Go.Proofs.YtikpfeaidgeebaaDoor.Mo
open Go.RowKit Cal Txt

/-- No day is marked. -/
def none0 : Int → Bool := fun _ => false
theorem bare_any (n : Int) (w : World) : Calls Tryd.prog 25 #[.int .i64 n] w fun e w' => e = .returned (.bool (none0 n)) ∧ Below w.heap.size w w' := by
  go_enter Tryd.func25, Tryd.ntmps25
  go_wp2
  go_ret
  exact ⟨rfl, Below.refl _ _⟩
/-- The leaf of a month. -/
def lfM (y m : Int) (p : Int → Bool) : List ByteArray := leaf (fst y m) (lst y m) p
theorem lfM_len {y m : Int} (p : Int → Bool) (h : isM y m) : 4 ≤ (lfM y m p).length ∧ (lfM y m p).length ≤ 6 := by
  have b := ends_bd h
  unfold lfM
  rw [leaf_len]
  exact cnt_bd b.2.2.1 b.2.2.2
theorem lfM_at {y m : Int} (p : Int → Bool) {k : Nat} (hk : k < (lfM y m p).length) : (lfM y m p).getD k ByteArray.empty = tb (ln (fst y m) (lst y m) p (mn (fst y m) + 7 * (k : Int)) 7) := by
  unfold lfM at hk ⊢
  rw [leaf_len] at hk
  exact rws_at _ _ _ hk
theorem lfM_size {y m : Int} (p : Int → Bool) (h : isM y m) {k : Nat} (hk : k < (lfM y m p).length) : ((lfM y m p).getD k ByteArray.empty).size = 21 := by
  have b := ends_bd h
  rw [lfM_at p hk, tb_size, ln_len (by omega)]
theorem mleaf_yes (y m : Int) (w : World) (hT : Tab w) (h : isM y m) :
    Calls Tryd.prog 8 #[.int .i64 y, .int .i64 m] w fun e w' => (∃ v, e = .returned (.tuple #[v, .nilIface]) ∧ Txs w' v (lfM y m none0)) ∧ Below w.heap.size w w' := by
  have eg : ∀ args w, (callFunc 25 args).run Tryd.prog w = .ok (.enter 25 args) w := enters_of Tryd.func25 (by kernel_rfl) rfl
  have b := ends_bd h
  have K1 := Lib.hid (ends_yes y m w hT h)
  have K2 : Hid (∀ W, Calls Tryd.prog 24 #[.int .i64 (fst y m), .int .i64 (lst y m), .func (.func 25) #[] #[]] W fun e w' => (∃ v, e = .returned (.tuple #[v, .nilIface]) ∧ Txs w' v (leaf (fst y m) (lst y m) none0)) ∧ Below W.heap.size W w') :=
    Lib.hid (fun W => leaf0_any _ none0 _ _ W eg (fun n _ _ W' _ => bare_any n W') b.1 b.2.1 b.2.2.1 b.2.2.2)
  clear eg
  go_enter Tryd.func8, Tryd.ntmps8
  go_wp2_with fail
  refine K1.out.mono ?_
  rintro e w1 ⟨rfl, hb⟩
  have B1 := Lib.hid hb
  clear hb
  go_wp2_with fail
  refine (K2.out w1).mono ?_
  rintro e w2 ⟨⟨v, rfl, hv⟩, hb⟩
  have HV := Lib.hid hv
  have B2 := Lib.hid (B1.out.trans (hb.mono B1.out.size))
  clear hb hv
  go_wp2
  go_ret2
  exact ⟨⟨v, rfl, HV.out⟩, B2.out⟩
theorem mleaf_no (y m : Int) (w : World) (h : ¬ isM y m) :
    Calls Tryd.prog 8 #[.int .i64 y, .int .i64 m] w fun e w' => e = .returned (.tuple #[.slice none 0 0, errRange]) ∧ Below w.heap.size w w' := by
  have K1 := Lib.hid (ends_no y m w h)
  clear h
  go_enter Tryd.func8, Tryd.ntmps8
  go_wp2_with fail
  refine K1.out.mono ?_
  rintro e w1 ⟨rfl, hb⟩
  have B1 := Lib.hid hb
  clear hb
  go_wp2
  go_ret2
  exact ⟨rfl, B1.out⟩
end Go.Proofs.YtikpfeaidgeebaaDoor.Mo
