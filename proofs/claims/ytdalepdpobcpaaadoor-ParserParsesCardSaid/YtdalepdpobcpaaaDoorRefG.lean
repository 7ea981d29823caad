/- The reference's begin, end and Term. Condition: the text's length. -/
import Derived.Test.YtdalepdpobcpaaaDoorRefE
import Derived.Test.YtdalepdpobcpaaaDoorParX3
import Derived.Test.YtdalepdpobcpaaaDoorLexR
import Derived.StillTailTactics
namespace Go.Proofs.YtdalepdpobcpaaaDoor
open Go Go.RowKit
namespace RefG
open Kit LexM TermM TermI TermU LexE LexF LexG LexP LexQ ParM ParA ParB ParC ParD ParK ParV ParN ParX ParX2 ParX3 ParB RefA RefB RefC0 RefC RefD
theorem tok_sy {k : Int} {x : List UInt8} {n : Nat} (h : LexQ.Good k x) : Sy (gt (k, x, n)) := by
  by_cases hk : k = 4 ∨ k = 5
  · exact Or.inl hk
  · refine Or.inr fun s hs => ?_
    cases hb : isB (gt (k, x, n)) s with
    | false => rfl
    | true =>
      exfalso
      unfold isB at hb
      rw [beq_iff_eq, ByteArray.toList_eq, ByteArray.toList_eq] at hb
      have hx : x = s.data.toList := by rw [← hb]; show x = (bs x).data.toList; simp [bs]
      have hp := h.2.2 [] rfl
      rw [List.append_nil, hx] at hp
      have h1 : (pieceF s.data.toList).1 = k := by rw [hp]
      apply hk
      rcases hs with rfl | rfl | rfl | rfl | rfl | rfl | rfl
      all_goals first | (left; rw [← h1]; decide +kernel) | (right; rw [← h1]; decide +kernel)
theorem lex_sy {l : List UInt8} (h : (lexR l).2.2 = 0) : ∀ t ∈ (lexR l).1.map gt, Sy t := by
  unfold lexR at h ⊢
  split at h
  · cases h
  · rename_i c
    rw [if_neg c]
    obtain ⟨xs, e, g, _⟩ := lexF_good _ _ _ h
    rw [e]
    intro t ht
    obtain ⟨u, hu, rfl⟩ := List.mem_map.1 ht
    rcases List.mem_append.1 hu with hu | hu
    · exact tok_sy (g u hu)
    · obtain rfl := List.mem_singleton.1 hu
      refine Or.inr fun s hs => ?_
      have hne : s ≠ ⟨#[]⟩ := by
        obtain ⟨a1, a2, a3, a4, a5, a6, a7⟩ := lit_ne
        rcases hs with rfl | rfl | rfl | rfl | rfl | rfl | rfl <;> assumption
      cases hb : isB (gt (0, [], 0 + l.length)) s with
      | false => rfl
      | true => exact absurd rfl (isB_ne hb hne)
set_option maxRecDepth 100000 in
set_option maxHeartbeats 1600000 in
theorem begin_ok (s : ByteArray) (w : World) (hs : s.size ≤ 140737488355328) (h0 : (lexR s.data.toList).2.2 = 0) :
    Calls Tryd.prog 29 #[.string s] w fun e w' => ∃ r, e = .returned (.pointer (some ⟨r, 0, none⟩)) ∧ w.heap.size ≤ r ∧ RR w' r ((lexR s.data.toList).1.map gt) 0 0 ∧ Below w.heap.size w w' := by
  have L := Lib.hid (lexed_ok2 (LexR.rlex_any s w hs) h0)
  have HE := Lib.hid (lexR_end h0)
  have HS := Lib.hid (lex_sy h0)
  clear h0
  unfold Got2 at L
  have hln : ((lexR s.data.toList).1.map gt).length = (lexR s.data.toList).1.length := by simp
  have HL := Lib.hid hln
  clear hln
  generalize lexR s.data.toList = R at *
  go_enter Tryd.func29, Tryd.ntmps29
  go_wp2_with fail
  refine L.out.mono ?_
  rintro e w1 ⟨g, cap, rfl, h1, h2, h3, h4, h5⟩
  have B := Lib.hid h5
  have T := Lib.hid h3
  have X := Lib.hid (And.intro h1 (And.intro h2 h4))
  clear h1 h2 h3 h4 h5 L
  go_wp2_with fail
  go_ret
  refine ⟨w1.heap.size, rfl, B.out.size, ⟨HE.out.1, fun t ht => ⟨HE.out.2.1 t ht, HS.out t ht⟩, g, 0, cap, R.1.length, 0, by rw [HL.out]; omega, by rw [← HL.out]; exact HE.out.2.2, X.out.1, X.out.2.1, ?_, T.out.1, ?_⟩, ?_⟩
  · exact Has.new w1 _ _
  · have := T.out.below (below_alloc w1 (.cells #[.slice (some ⟨g, 0, none⟩) R.1.length cap, .int .i64 0, .int .i64 0, .int .i64 0] 59)) T.out.1
    simpa using this
  · exact B.out.alloc B.out.size _
set_option maxRecDepth 100000 in
set_option maxHeartbeats 1600000 in
theorem begin_err (s : ByteArray) (w : World) (hs : s.size ≤ 140737488355328) (h0 : (lexR s.data.toList).2.2 ≠ 0) :
    Calls Tryd.prog 29 #[.string s] w fun e w' => ∃ r, e = .returned (.pointer (some ⟨r, 0, none⟩)) ∧ w.heap.size ≤ r ∧ Has w' r #[.slice none 0 0, .int .i64 0, .int .i64 (lexR s.data.toList).2.1, .int .i64 (lexR s.data.toList).2.2] ∧ Below w.heap.size w w' := by
  have L := Lib.hid (lexed_err (LexR.rlex_any s w hs) h0)
  clear h0
  generalize lexR s.data.toList = R at *
  go_enter Tryd.func29, Tryd.ntmps29
  go_wp2_with fail
  refine L.out.mono ?_
  rintro e w1 ⟨rfl, h5⟩
  have B := Lib.hid h5
  clear h5 L
  go_wp2_with fail
  go_ret
  exact ⟨w1.heap.size, rfl, B.out.size, Has.new w1 _ _, B.out.alloc B.out.size _⟩
set_option maxRecDepth 100000 in
set_option maxHeartbeats 1600000 in
theorem end_no (w : World) (r : Nat) (ts : List GTok) (h : RR w r ts 0 0) (h0 : (hd ts).1 = 0) :
    Calls Tryd.prog 34 #[.pointer (some ⟨r, 0, none⟩)] w fun e w' => e = .returned (.tuple #[]) ∧ Below w.heap.size w w' := by
  obtain ⟨g, o, c, n, i, i1, i2, i3, i4, i5, x1, x2, x3, x4, f1, f2, f3, y1, y2, y3, y4⟩ := h.open
  have hi1 : (i : Int) < (n : Int) := by omega
  have hi0 : 0 ≤ (i : Int) := by omega
  rw [h0] at y1
  clear h h0
  go_enter Tryd.func34, Tryd.ntmps34
  go_upto_region 0 with fail
  go_quiet (fail)
  go_wp2_with fail
  go_returns
  exact ⟨rfl, below_drewN (Below.refl _ _) _⟩
set_option maxRecDepth 100000 in
set_option maxHeartbeats 1600000 in
theorem end_yes (w : World) (r : Nat) (ts : List GTok) (h : RR w r ts 0 0) (h0 : (hd ts).1 ≠ 0) :
    Calls Tryd.prog 34 #[.pointer (some ⟨r, 0, none⟩)] w fun e w' => e = .returned (.tuple #[]) ∧ RR w' r ts (hd ts).2.2 1 ∧ Ch r w w' := by
  obtain ⟨g, o, c, n, i, i1, i2, i3, i4, i5, x1, x2, x3, x4, f1, f2, f3, y1, y2, y3, y4⟩ := h.open
  have hi1 : (i : Int) < (n : Int) := by omega
  have hi0 : 0 ≤ (i : Int) := by omega
  have F := Lib.hid (fun w1 (k : Below w.heap.size w w1) => fail_ok w1 r ts 0 1 (h.below k))
  have hk : ((hd ts).1 != 0) = true := by rw [bne_iff_ne]; exact h0
  clear h h0
  generalize (hd ts).1 = k at *
  generalize (hd ts).2.2 = ta at *
  generalize (hd ts).2.1 = tx at *
  go_enter Tryd.func34, Tryd.ntmps34
  go_upto_region 0 with fail
  go_quiet (fail)
  have F2 := Lib.hid (F.out (w.drewN nq) (below_drewN (Below.refl _ _) nq))
  clear F
  go_wp2_with fail
  refine F2.out.mono ?_
  rintro e w2 ⟨rfl, k1, k2⟩
  have R2 := Lib.hid k1
  have C2 := Lib.hid ((Ch.of (r := r) (below_drewN (Below.refl _ w) nq)).trans k2)
  clear k1 k2 F2
  go_wp2_with fail
  go_returns
  exact ⟨rfl, R2.out, C2.out⟩
set_option maxRecDepth 100000 in
set_option maxHeartbeats 1600000 in
theorem end_err (w : World) (r : Nat) (er : Int) (h3 : w.cell? ⟨r, 3, none⟩ = some (.int .i64 er)) (her : er ≠ 0) :
    Calls Tryd.prog 34 #[.pointer (some ⟨r, 0, none⟩)] w fun e w' => e = .returned (.tuple #[]) ∧ Below w.heap.size w w' := by
  have he : (er == 0) = false := by rw [beq_eq_false_iff_ne]; exact her
  clear her
  go_enter Tryd.func34, Tryd.ntmps34
  go_upto_region 0 with fail
  go_quiet (fail)
  go_wp2_with fail
  go_returns
  exact ⟨rfl, below_drewN (Below.refl _ _) _⟩
end RefG
end Go.Proofs.YtdalepdpobcpaaaDoor
