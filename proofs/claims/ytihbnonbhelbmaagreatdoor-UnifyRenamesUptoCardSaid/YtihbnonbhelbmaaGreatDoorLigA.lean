/- variable of gameplayerplain: it answers a bool. No conditions. -/
import Derived.Test.YtihbnonbhelbmaaGreatDoorTermI
namespace Go.Proofs.YtihbnonbhelbmaaGreatDoor
open Go Go.RowKit
namespace LigA
open LexM TermM TermI Kit
set_option maxRecDepth 100000 in
set_option maxHeartbeats 400000 in
theorem variable_any (t : Tm) (p : Option Addr) (c : Nat) (w : World) :
    Calls Tryz.prog 134 #[.agg #[.string t.nm, .slice p t.args.length c]] w fun e w' => ∃ b : Bool, e = .returned (.bool b) ∧ Gr w w' := by
  generalize t.args.length = m
  generalize t.nm = n
  obtain ⟨z, hz⟩ : ∃ z, ((m : Int) == 0) = z := ⟨_, rfl⟩
  cases z
  · go_enter Tryz.func134, Tryz.ntmps134
    go_wp2_with fail
    go_ret
    exact ⟨_, rfl, Gr.alloc _ _⟩
  · by_cases hn : n.size = 0
    · have e : n = ⟨#[]⟩ := by
        obtain ⟨d⟩ := n
        have : d = #[] := Array.eq_empty_of_size_eq_zero hn
        rw [this]
      subst e
      go_enter Tryz.func134, Tryz.ntmps134
      go_wp2_with fail
      go_ret
      exact ⟨_, rfl, Gr.alloc _ _⟩
    · have hs : 0 < n.size := by omega
      have hs2 : (0 : Int) < (n.size : Int) := by omega
      have hne : (n.toList == ([] : List UInt8)) = false := by
        rw [beq_eq_false_iff_ne]
        intro h
        rw [ByteArray.toList_eq] at h
        have h2 : n.data.size = 0 := by rw [← Array.length_toList, h]; rfl
        exact hn h2
      obtain ⟨g1, hg1⟩ : ∃ z, decide ((65 : Int) ≤ (n[0]'hs).toNat) = z := ⟨_, rfl⟩
      obtain ⟨g2, hg2⟩ : ∃ z, decide (((n[0]'hs).toNat : Int) ≤ 90) = z := ⟨_, rfl⟩
      go_enter Tryz.func134, Tryz.ntmps134
      cases g1 <;> cases g2
      all_goals
        go_wp2_with fail
        go_ret
        exact ⟨_, rfl, Gr.alloc _ _⟩
end LigA
end Go.Proofs.YtihbnonbhelbmaaGreatDoor
