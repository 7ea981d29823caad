/- The region of word's loop may be walked in the text's order: checked in three parts. No conditions. -/
import Derived.Test.YtgbbpliihglijaaGreatGBC
import Derived.Still
namespace Go.Proofs.YtgbbpliihglijaaGreat
open Go Go.RowKit
namespace RdL
/-- The operations of a region, by its number. -/
def findReg (n : Nat) : Code → Option (Array Oper)
  | .region k ops _ => if k = n then some ops else none
  | .seq a b => match findReg n a with
    | some o => some o
    | none => findReg n b
  | .cond _ a b => match findReg n a with
    | some o => some o
    | none => findReg n b
  | .block _ b => findReg n b
  | .loop b => findReg n b
  | .scope b => findReg n b
  | _ => none
noncomputable def reg3 : Array Oper := ((Tryz.f41.body.bind (findReg 3)).getD #[])
def lexN (ops : Array Oper) : Nat → Nat → Array Bool → Bool
  | 0, _, _ => true
  | n + 1, k, li => (Region.ready .any ops li).contains k && Region.free .any ops li k && lexN ops n (k + 1) (li.setIfInBounds k true)
def setN : Nat → Nat → Array Bool → Array Bool
  | 0, _, li => li
  | n + 1, k, li => setN n (k + 1) (li.setIfInBounds k true)
theorem lex_split (ops : Array Oper) (b : Nat) : ∀ (a k : Nat) (li : Array Bool), Region.lexFrom .any ops (a + b) k li = (lexN ops a k li && Region.lexFrom .any ops b (k + a) (setN a k li))
  | 0, k, li => by simp [lexN, setN]
  | a + 1, k, li => by
    rw [show a + 1 + b = (a + b) + 1 by omega, show k + (a + 1) = k + 1 + a by omega]
    show ((Region.ready .any ops li).contains k && Region.free .any ops li k && Region.lexFrom .any ops (a + b) (k + 1) (li.setIfInBounds k true)) = _
    rw [lex_split ops b a (k + 1)]
    simp only [lexN, setN, Bool.and_assoc]
theorem size3 : reg3.size = 94 := by kernel_rfl
theorem nosel3 : Region.noSelect reg3 = true := by kernel_rfl
theorem part1 : lexN reg3 24 0 (Array.replicate 94 false) = true := by kernel_rfl
theorem part2 : lexN reg3 24 24 (setN 24 0 (Array.replicate 94 false)) = true := by kernel_rfl
theorem part3 : lexN reg3 24 48 (setN 24 24 (setN 24 0 (Array.replicate 94 false))) = true := by kernel_rfl
theorem part4 : Region.lexFrom .any reg3 22 72 (setN 24 48 (setN 24 24 (setN 24 0 (Array.replicate 94 false)))) = true := by kernel_rfl
theorem lex3 : Region.lexB .any reg3 = true := by
  unfold Region.lexB
  rw [size3, nosel3, Bool.true_and, show (94 : Nat) = 24 + (24 + (24 + 22)) from rfl, lex_split, lex_split, lex_split, part1, Bool.true_and]
  exact (Bool.and_eq_true_iff.2 ⟨part2, Bool.and_eq_true_iff.2 ⟨part3, part4⟩⟩)
end RdL
end Go.Proofs.YtgbbpliihglijaaGreat
