/- What Parse, Rule, Term and Terms answer, as plain functions of the text; the tokens of a text end with the one of kind 0. No conditions. -/
import Derived.Test.YtdalepdpobcpaaaDoorParW
namespace Go.Proofs.YtdalepdpobcpaaaDoor
open Go Go.RowKit
namespace ParV
open Kit LexM TermM LexE LexF LexG LexP ParM
/-- The whole text, by its tokens. -/
def wholeF {α : Type} (f : List GTok → Out α) (l : List UInt8) : Out α :=
  if (lexR l).2.2 = 0 then (f ((lexR l).1.map gt)).then fun x r => if (hd r).1 = 0 then .good x [] else .bad (hd r).2.2 1 else .bad (lexR l).2.1 (lexR l).2.2
theorem cat_zero {t : List Tok} {r : Res} (h : (cat t r).2.2 = 0) : r.2.2 = 0 ∧ (cat t r).1 = t ++ r.1 := by
  unfold cat at h ⊢
  split at h
  · rename_i h2; rw [if_pos h2]; exact ⟨h2, rfl⟩
  · rename_i h2; exact absurd h h2
theorem lex_end : ∀ (f k : Nat) (l : List UInt8), (lexF f k l).2.2 = 0 → (∃ (xs : List Tok) (n : Nat), (lexF f k l).1 = xs ++ [(0, [], n)]) ∧ ∀ t ∈ (lexF f k l).1, t.2.1.length ≤ l.length
  | 0, k, [], _ => ⟨⟨[], k, rfl⟩, fun t ht => by simp [lexF] at ht; subst ht; simp⟩
  | _ + 1, k, [], _ => ⟨⟨[], k, rfl⟩, fun t ht => by simp [lexF] at ht; subst ht; simp⟩
  | 0, k, b :: l, h => by simp [lexF] at h
  | f + 1, k, b :: l, h => by
    rw [lexF] at h ⊢
    split at h
    · rename_i h0
      rw [if_pos h0]
      obtain ⟨h1, h2⟩ := cat_zero h
      obtain ⟨⟨xs, n, e⟩, h4⟩ := lex_end f _ _ h1
      rw [h2]
      refine ⟨⟨LexG.tok (pieceF (b :: l)) (b :: l) k ++ xs, n, by rw [e, List.append_assoc]⟩, fun t ht => ?_⟩
      rcases List.mem_append.1 ht with ht | ht
      · unfold LexG.tok at ht
        split at ht
        · simp at ht
        · obtain rfl := List.mem_singleton.1 ht
          rw [List.length_take]
          omega
      · have := h4 t ht
        rw [List.length_drop] at this
        omega
    · rename_i h0
      exact absurd h h0
theorem lexR_end {l : List UInt8} (h : (lexR l).2.2 = 0) : Wf ((lexR l).1.map gt) ∧ (∀ t ∈ (lexR l).1.map gt, t.2.1.size ≤ maxLen) ∧ ((lexR l).1.map gt).length ≤ 20000 := by
  have hc := lexR_count l
  have hl : l.length ≤ 16384 ∧ lexR l = lexF l.length 0 l := by
    unfold lexR at h ⊢
    split at h
    · simp at h
    · rename_i h2; rw [if_neg h2]; exact ⟨by omega, rfl⟩
  rw [hl.2] at h
  obtain ⟨⟨xs, n, e⟩, h2⟩ := lex_end _ _ _ h
  refine ⟨⟨xs.map gt, n, by rw [hl.2, e, List.map_append]; rfl⟩, fun t ht => ?_, by rw [List.length_map]; omega⟩
  obtain ⟨u, hu, rfl⟩ := List.mem_map.1 ht
  rw [hl.2] at hu
  have := h2 u hu
  show (bs u.2.1).size ≤ maxLen
  unfold bs maxLen
  simp only [ByteArray.size, List.size_toArray]
  omega
end ParV
end Go.Proofs.YtdalepdpobcpaaaDoor
