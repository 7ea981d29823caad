/- The reference's marked: the marked numbers. Condition: at most a million marks. Made by gnNv.py. -/
import Derived.Test.YtkfeliogglnngaaGBD
namespace Go.Proofs.Ytkfeliogglnngaa
open Go Go.RowKit
namespace NetNv
open Kit TermM TermI NetM NetN NetK NetA NetI NetMk NetNu
set_option maxRecDepth 100000 in
set_option maxHeartbeats 3200000 in
theorem marked_any (S : List Bool) (ok : Nat → Prop) (w : World) (v : Value) (h : RowE KB ok w S v) (hk : ∀ b, ok b → b < w.heap.size) (hm : S.length ≤ 1000000) :
    Calls Try.prog 49 #[v] w (NuE S w) := by
  obtain ⟨i0, hi0, hi1, hi2, hi3⟩ := info_parts Try.infoN
  obtain ⟨p, c, rfl⟩ := h.form
  have CA : Hid (∀ (j : Nat) x, S[j]? = some x → ∀ w', Below w.heap.size w w' → ∃ g o, p = some ⟨g, o, none⟩ ∧ w'.cell? ⟨g, o + j, none⟩ = some (.bool x)) := Lib.hid (fun j x hx w' q => by
    obtain ⟨g, o, e1, e2, _, e4⟩ := h.at hx
    refine ⟨g, o, e1, (q.cell (p := ⟨g, _, none⟩) (hk g e2)).trans ?_⟩
    have := e4 0 _ rfl
    simpa [KB] using this)
  clear h hk
  have NS := Lib.hid (nil_own w.heap.size w 3 1)
  have NO : Hid (numsOf S = numsTo S S.length) := Lib.hid rfl
  generalize hn : S.length = n at *
  have HN := Lib.hid hn
  clear hn
  go_enter Try.func49, Try.ntmps49
  go_wp2_with fail
  go_loopw [3, 4] (fun u3 i wr => ∃ (k : Nat) (F : List Int), k ≤ n ∧ i = .int .i64 k ∧ Hid (F = numsTo S k) ∧ Hid (wr.ownsRow w.heap.size 3 1 u3 F.length (NetI.numV F)) ∧ Hid (∀ x ∈ F, I64 x) ∧ Hid (Below w.heap.size w wr)) (fun _ i _ => n - (intOf i).toNat)
  case atStart => exact ⟨0, [], Nat.zero_le _, rfl, Lib.hid rfl, NS, Lib.hid (fun x hx => by cases hx), Lib.hid (Below.refl _ _)⟩
  case round =>
    obtain ⟨k, F, hkn, rfl, hF, hO, hI, hD⟩ := hrel
    obtain ⟨va, vc, rfl⟩ := form1 hO.out
    have hFl : F.length ≤ k := by have := nums_len S k; rw [← hF.out] at this; exact this
    by_cases hlt : k < n
    · obtain ⟨x, hx⟩ : ∃ x, S[k]? = some x := ⟨S[k]'(by rw [HN.out]; exact hlt), by simp⟩
      obtain ⟨g, o, rfl, c1⟩ := CA.out k x hx wr hD.out
      have j0 : (0 : Int) ≤ (k : Int) := by omega
      have j1 : (k : Int) < n := by omega
      have hz3 := hD.out.size
      cases x
      · have F2 : Hid (F = numsTo S (k + 1)) := Lib.hid (by rw [nums_no (by rw [hx]; simp)]; exact hF.out)
        clear hx
        go_wp2_with fail
        go_roundw
        case rel => first | exact ⟨k + 1, F, by omega, by go_num, F2, hO, hI, hD⟩ | ((repeat (apply Exists.intro)); refine ⟨?_, rfl⟩; exact ⟨k + 1, F, by omega, by go_num, F2, hO, hI, hD⟩)
        case measure => simp [intOf]; omega
      · have F2 : Hid (F ++ [(k : Int)] = numsTo S (k + 1)) := Lib.hid (by rw [nums_yes hx, ← hF.out])
        have I2 : Hid (∀ y ∈ F ++ [(k : Int)], I64 y) := Lib.hid (fun y hy => by
          rcases List.mem_append.1 hy with hy | hy
          · exact hI.out y hy
          · rw [List.mem_singleton.1 hy]
            unfold I64
            omega)
        have AA1 : F.length + 1 ≤ maxLen := by unfold maxLen; omega
        have AA2 : (F.length + 1) * 8 ≤ 140737488355328 := by omega
        have AA3 : w.heap.size ≤ (wr.alloc (.cells #[.int .i64 (k : Int)] 3)).heap.size := by simp <;> omega
        clear hx
        go_wp2_with (at_builtin; go_must (refine wpList_append_lies _ rfl _ _ 25 rfl w.heap.size 3 i0 (.int .i64 0) 1 8 Try.underlying25 hi0 hi1 hi2 hi3 rfl (by decide) (.slice va F.length vc) F.length (NetI.numV F) rfl (hO.out.alloc _) ⟨wr.heap.size, 0, none⟩ 1 1 [.int .i64 k] rfl rfl (World.news_of_block (heap_alloc_new wr _)) (one_int k) (by decide) AA1 AA2 AA3 (wr.heap.size + 1) (by simp) ?_; intro g6 c6 w6 hown6 hgrow6 hat6 hlt6; have O6 : Hid (w6.ownsRow w.heap.size 3 1 (.slice (some ⟨g6, 0, none⟩) (F.length + 1) c6) (F ++ [(k : Int)]).length (NetI.numV (F ++ [(k : Int)]))) := Lib.hid (by rw [List.length_append, NetI.numv_app]; exact hown6); have D6 := Lib.hid ((hD.out.alloc hz3 (.cells #[.int .i64 k] 3)).grown hgrow6 (by simp <;> omega) (fun j hj => (hO.out.lt j hj).1)); clear hown6 hgrow6 hat6 hlt6))
        go_roundw
        case rel => first | exact ⟨k + 1, F ++ [(k : Int)], by omega, by go_num, F2, O6, I2, D6⟩ | ((repeat (apply Exists.intro)); refine ⟨?_, rfl⟩; exact ⟨k + 1, F ++ [(k : Int)], by omega, by go_num, F2, O6, I2, D6⟩)
        case measure => simp [intOf]; omega
    · obtain rfl : k = n := by omega
      have R7 := Lib.hid (own_row hO.out hI.out)
      have FE : Hid (F = numsOf S) := Lib.hid (by rw [hF.out, NO.out])
      go_wp2_with fail
      go_ret
      exact NuE.mk (by rw [← FE.out]; exact R7.out) hD.out
end NetNv
end Go.Proofs.Ytkfeliogglnngaa
