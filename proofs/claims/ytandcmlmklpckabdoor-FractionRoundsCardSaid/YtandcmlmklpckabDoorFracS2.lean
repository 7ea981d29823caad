/- The reference's Round where its arguments are not valid, and the range of what the operations answer. No conditions. -/
import Derived.Test.YtandcmlmklpckabDoorFracS
import Derived.Test.YtandcmlmklpckabDoorFracN
namespace Go.Proofs.YtandcmlmklpckabDoor
open Go Go.RowKit
namespace FracS2
open Kit FracM
open FracB (fr)
open FracR (near roundF)

theorem in30 (p : Int × Int × Int) (h : p = (0, 0, 12) ∨ p = (0, 0, 13) ∨ ∃ a b, p = mk a b) : (-1073741824 ≤ p.1 ∧ p.1 ≤ 1073741824) ∧ -1073741824 ≤ p.2.1 ∧ p.2.1 ≤ 1073741824 := by
  rcases h with rfl | rfl | ⟨a, b, rfl⟩
  · simp
  · simp
  · exact mk_in a b
theorem roundF_in (n d k : Int) : (-1073741824 ≤ (roundF n d k).1 ∧ (roundF n d k).1 ≤ 1073741824) ∧ -1073741824 ≤ (roundF n d k).2.1 ∧ (roundF n d k).2.1 ≤ 1073741824 := by
  apply in30
  unfold roundF
  split
  · split
    · exact Or.inl rfl
    · exact Or.inr (Or.inr ⟨_, _, rfl⟩)
  · exact Or.inr (Or.inl rfl)
theorem subF_in (a b c d : Int) : (-1073741824 ≤ (subF a b c d).1 ∧ (subF a b c d).1 ≤ 1073741824) ∧ -1073741824 ≤ (subF a b c d).2.1 ∧ (subF a b c d).2.1 ≤ 1073741824 := by
  apply in30
  unfold subF
  split
  · exact Or.inr (Or.inr ⟨_, _, rfl⟩)
  · exact Or.inr (Or.inl rfl)
theorem mulF_in (a b c d : Int) : (-1073741824 ≤ (mulF a b c d).1 ∧ (mulF a b c d).1 ≤ 1073741824) ∧ -1073741824 ≤ (mulF a b c d).2.1 ∧ (mulF a b c d).2.1 ≤ 1073741824 := by
  apply in30
  unfold mulF
  split
  · exact Or.inr (Or.inr ⟨_, _, rfl⟩)
  · exact Or.inr (Or.inl rfl)

set_option maxHeartbeats 1600000 in
/-- The reference's Round, for all fractions and steps. -/
theorem round_any (n d den : Int) (w : World) (ha0 : -9223372036854775808 ≤ n) (ha1 : n ≤ 9223372036854775807) (hb0 : -9223372036854775808 ≤ d) (hb1 : d ≤ 9223372036854775807) :
    Calls Tryd.prog 6 #[.agg #[.int .i64 n, .int .i64 d], .int .i64 den] w fun e w' => e = .returned (fr (roundF n d den)) ∧ Below w.heap.size w w' := by
  unfold roundF
  obtain ⟨V1, v1⟩ : ∃ V1, vld n d = V1 := ⟨_, rfl⟩
  rw [v1]
  cases V1
  case false =>
    rw [if_neg (by simp)]
    have hv := fun w2 => v1 ▸ FracE.valid_any n d w2 ha0 ha1 hb0 hb1
    have Hv := Lib.hid hv
    clear hv v1
    go_enter Tryd.func6, Tryd.ntmps6
    go_wp2_with fail
    refine (Hv.out _).mono ?_
    rintro e w1 ⟨rfl, k1⟩
    have A2 : Has w1 (w.heap.size + 1) #[.int .i64 0, .int .i64 0] := (Has.new1 w _ 23 _).below k1 (by simp)
    have B1 : Below w.heap.size w w1 := ((below_alloc w _).alloc (by simp) _).trans (k1.mono (by simp; omega))
    obtain ⟨c4, c5, f4, f5, z1⟩ := A2.two
    go_wp2_with fail
    have r0 := A2.put0 (.int .i64 0) (.int .i64 0)
    have r1 := A2.put1 (.int .i64 0) (.int .i64 0)
    refine bodyPost_ret (v := fr (0, 0, 13)) (by simp [results, Tryd.results6, go_sem, r0, r1]) rfl ?_
    exact ⟨rfl, by repeat (first | exact B1 | refine Below.setCell ?_ (by simp) _)⟩
  case true =>
    rw [if_pos rfl]
    by_cases hden : den < 1 ∨ 1073741824 < den
    · rw [if_pos hden]
      have hden' : den < 1 ∨ (1 ≤ den ∧ 1073741824 < den) := by omega
      have hv := fun w2 => v1 ▸ FracE.valid_any n d w2 ha0 ha1 hb0 hb1
      have Hv := Lib.hid hv
      clear hv v1 hden
      rcases hden' with h1 | ⟨h1, h2⟩
      all_goals
        go_enter Tryd.func6, Tryd.ntmps6
        go_wp2_with fail
        refine (Hv.out _).mono ?_
        rintro e w1 ⟨rfl, k1⟩
        have A2 : Has w1 (w.heap.size + 1) #[.int .i64 0, .int .i64 0] := (Has.new1 w _ 23 _).below k1 (by simp)
        have B1 : Below w.heap.size w w1 := ((below_alloc w _).alloc (by simp) _).trans (k1.mono (by simp; omega))
        obtain ⟨c4, c5, f4, f5, z1⟩ := A2.two
        go_wp2_with fail
        have r0 := A2.put0 (.int .i64 0) (.int .i64 0)
        have r1 := A2.put1 (.int .i64 0) (.int .i64 0)
        refine bodyPost_ret (v := fr (0, 0, 12)) (by simp [results, Tryd.results6, go_sem, r0, r1]) rfl ?_
        exact ⟨rfl, by repeat (first | exact B1 | refine Below.setCell ?_ (by simp) _)⟩
    · rw [if_neg hden]
      exact FracS.round_ok n d den w v1 (by omega) (by omega)
end FracS2
end Go.Proofs.YtandcmlmklpckabDoor
