/- Tokens in memory, and Lex by its outcome (for a seat without layer 4's laws). No conditions. -/
import Derived.Test.YtdalepdpobcpaaaDoorLexG
namespace Go.Proofs.YtdalepdpobcpaaaDoor
open Go Go.RowKit
namespace LexP
open Kit LexM LexE LexF LexG
abbrev GTok := Int × ByteArray × Int
/-- The tokens ts lie at an address, three cells each. -/
def Toks (w : World) (g off : Nat) (ts : List GTok) : Prop := g < w.heap.size ∧ ∀ i t, ts[i]? = some t → w.cell? ⟨g, off + i * 3, none⟩ = some (.int .i64 t.1) ∧ w.cell? ⟨g, off + i * 3 + 1, none⟩ = some (.string t.2.1) ∧ w.cell? ⟨g, off + i * 3 + 2, none⟩ = some (.int .i64 t.2.2)
theorem Toks.below {w w' : World} {g off B : Nat} {ts : List GTok} (h : Toks w g off ts) (hb : Below B w w') (hB : g < B) : Toks w' g off ts :=
  ⟨Nat.lt_of_lt_of_le h.1 hb.size, fun i t hi => ⟨(hb.cell (p := ⟨g, off + i * 3, none⟩) hB).trans (h.2 i t hi).1, (hb.cell (p := ⟨g, off + i * 3 + 1, none⟩) hB).trans (h.2 i t hi).2.1, (hb.cell (p := ⟨g, off + i * 3 + 2, none⟩) hB).trans (h.2 i t hi).2.2⟩⟩
def gt (t : Tok) : GTok := (t.1, bs t.2.1, (t.2.2 : Int))
theorem flat_get : ∀ (ts : List Tok) (i : Nat) (t : Tok), ts[i]? = some t → (ts.flatMap tcells)[i * 3]? = some (.int .i64 t.1) ∧ (ts.flatMap tcells)[i * 3 + 1]? = some (.string (bs t.2.1)) ∧ (ts.flatMap tcells)[i * 3 + 2]? = some (.int .i64 t.2.2)
  | [], i, t, h => by simp at h
  | a :: ts, 0, t, h => by
    simp at h
    subst h
    exact ⟨rfl, rfl, rfl⟩
  | a :: ts, i + 1, t, h => by
    have ih := flat_get ts i t (by simpa using h)
    have e : (i + 1) * 3 = i * 3 + 3 := by omega
    rw [e]
    exact ih
theorem toks_of {w : World} {B g cap : Nat} {ts : List Tok} (h : w.ownsRow B 61 3 (.slice (some ⟨g, 0, none⟩) ts.length cap) ts.length (ts.flatMap tcells)) (hg : g < w.heap.size) : Toks w g 0 (ts.map gt) := by
  refine ⟨hg, fun i t hi => ?_⟩
  rw [List.getElem?_map] at hi
  obtain ⟨u, hu, rfl⟩ := Option.map_eq_some_iff.1 hi
  have hlt : i < ts.length := (List.getElem?_eq_some_iff.1 hu).1
  obtain ⟨f1, f2, f3⟩ := flat_get ts i u hu
  rw [Nat.zero_add]
  exact ⟨(h.cellAt _ (by omega)).trans f1, (h.cellAt _ (by omega)).trans f2, (h.cellAt _ (by omega)).trans f3⟩
theorem lexed_err {f : FuncId} {s : ByteArray} {w : World} {R : Res} (h : Calls Tryd.prog f #[.string s] w (Lexed w R)) (hR : R.2.2 ≠ 0) :
    Calls Tryd.prog f #[.string s] w fun e w' => e = .returned (.tuple #[.slice none 0 0, .int .i64 R.2.1, .int .i64 R.2.2]) ∧ Below w.heap.size w w' :=
  h.mono fun e w' h => by
    rcases h with ⟨_, he, hb⟩ | ⟨h, _⟩
    · exact ⟨he, hb⟩
    · exact absurd h hR
def Got (R : Res) (w : World) (e : Ending) (w' : World) : Prop := ∃ g cap : Nat, e = .returned (.tuple #[.slice (some ⟨g, 0, none⟩) R.1.length cap, .int .i64 0, .int .i64 0]) ∧ Toks w' g 0 (R.1.map gt) ∧ w.heap.size ≤ g ∧ Below w.heap.size w w'
theorem lexed_ok {f : FuncId} {s : ByteArray} {w : World} {R : Res} (h : Calls Tryd.prog f #[.string s] w (Lexed w R)) (hR : R.2.2 = 0) :
    Calls Tryd.prog f #[.string s] w (Got R w) :=
  h.mono fun e w' h => by
    rcases h with ⟨h, _⟩ | ⟨_, g, cap, he, ho, hg, hl, hb⟩
    · exact absurd hR h
    · exact ⟨g, cap, he, toks_of ho hl, hg, hb⟩
theorem lexF_count : ∀ (f k : Nat) (l : List UInt8), (lexF f k l).1.length ≤ l.length + 1
  | 0, _, [] => by simp [lexF]
  | _ + 1, _, [] => by simp [lexF]
  | 0, _, _ :: _ => by simp [lexF]
  | f + 1, k, b :: l => by
    rw [lexF]
    by_cases h : (pieceF (b :: l)).2.2 = 0
    · rw [if_pos h]
      have ih := lexF_count f (k + (pieceF (b :: l)).2.1) ((b :: l).drop (pieceF (b :: l)).2.1)
      have hp := piece_len (b :: l) (by simp) h
      rw [List.length_drop] at ih
      have ht : (LexG.tok (pieceF (b :: l)) (b :: l) k).length ≤ 1 := by unfold LexG.tok; split <;> simp
      unfold cat
      split
      · rw [List.length_append]; omega
      · simp
    · rw [if_neg h]; simp
theorem lexR_count (l : List UInt8) : (lexR l).1.length ≤ 16385 := by
  unfold lexR
  split
  · simp
  · have := lexF_count l.length 0 l; omega
end LexP
end Go.Proofs.YtdalepdpobcpaaaDoor
