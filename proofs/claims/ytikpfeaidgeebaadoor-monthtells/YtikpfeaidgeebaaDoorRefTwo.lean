/-
  What is proved here: what the document's two and ShowDate answer (contracts over the translation).
-/
import Derived.Test.YtikpfeaidgeebaaDoorRef
import Derived.Test.YtikpfeaidgeebaaDoorTxtTime
namespace Go.Proofs.YtikpfeaidgeebaaDoor
open Go.RowKit Cal Txt

theorem dig_at : ∀ k : Fin 10, ((⟨#[48, 49, 50, 51, 52, 53, 54, 55, 56, 57]⟩ : ByteArray).extract k.val (k.val + 1)).data.toList = [UInt8.ofNat (48 + k.val)] := by decide +kernel
theorem dig_one {k : Nat} (h : k < 10) : (⟨#[48, 49, 50, 51, 52, 53, 54, 55, 56, 57]⟩ : ByteArray).extract k (k + 1) = ⟨[UInt8.ofNat (48 + k)].toArray⟩ := by
  apply ByteArray.ext; apply Array.ext'; exact dig_at ⟨k, h⟩
theorem showDate_eq (a b c e : List UInt8) : (⟨a.toArray⟩ : ByteArray) ++ ⟨b.toArray⟩ ++ ⟨#[45]⟩ ++ ⟨c.toArray⟩ ++ ⟨#[45]⟩ ++ ⟨e.toArray⟩ = ⟨(a ++ b ++ [45] ++ c ++ [45] ++ e).toArray⟩ := by
  apply ByteArray.ext; simp
/-- The text of a date. -/
def dtx (y m d : Int) : List UInt8 := d2 (y / 100).toNat ++ d2 y.toNat ++ [45] ++ d2 m.toNat ++ [45] ++ d2 d.toNat
end Go.Proofs.YtikpfeaidgeebaaDoor
