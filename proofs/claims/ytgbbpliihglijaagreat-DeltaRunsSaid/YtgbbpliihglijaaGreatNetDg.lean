/- delta's value of a gate that reads others, from how many it reads and how many of them are true. No conditions. Made by gnDg.py. -/
import Derived.Test.YtgbbpliihglijaaGreatNetDn
namespace Go.Proofs.YtgbbpliihglijaaGreat
open Go Go.RowKit
namespace NetDg
open Kit TermM TermI NetM NetN NetK NetA NetC NetI NetMk NetNu NetOk NetEv NetBo
def gvB (kd rs tr : Int) : Bool := if kd = 4 then decide (tr = rs) else if kd = 5 then decide (0 < tr) else decide (tr = 0)
theorem beq_dec (a b : Int) : (a == b) = decide (a = b) := by by_cases h : a = b <;> simp [h]
set_option maxRecDepth 100000 in
theorem gval_any (kd ix rs tr : Int) (p : Option Addr) (n c : Nat) (w : World) : Calls Tryz.prog 38 #[.agg #[.int .i64 kd, .int .i64 ix, .int .i64 rs, .int .i64 tr, .slice p n c]] w fun e w' => e = .returned (.bool (gvB kd rs tr)) ∧ Below w.heap.size w w' := by
  obtain ⟨W1, hW1⟩ : ∃ z, z = w.alloc (.cells #[.int .i64 kd, .int .i64 ix, .int .i64 rs, .int .i64 tr, .slice p n c] 72) := ⟨_, rfl⟩
  have K1 : Hid (Below w.heap.size w W1) := Lib.hid (by rw [hW1]; exact below_alloc _ _)
  have H1 : Has W1 w.heap.size #[.int .i64 kd, .int .i64 ix, .int .i64 rs, .int .i64 tr, .slice p n c] := by rw [hW1]; exact Has.new _ _ _
  have x0 := H1.cell 0
  have x2 := H1.cell 2
  have x3 := H1.cell 3
  clear H1
  by_cases h4 : kd = 4
  · have e0 : gvB kd rs tr = (tr == rs) := by unfold gvB; rw [if_pos h4, beq_dec]
    rw [e0]
    have i1 : (kd == 4) = true := by simp [h4]
    clear h4 e0
    generalize hb : (tr == rs) = b at *
    go_enter Tryz.func38, Tryz.ntmps38
    go_upto_region 1 with fail
    rw [← hW1]
    clear hW1
    go_wp2_with fail
    go_ret
    exact ⟨rfl, K1.out⟩
  have i1 : (kd == 4) = false := by simp [h4]
  by_cases h5 : kd = 5
  · have e0 : gvB kd rs tr = decide (0 < tr) := by unfold gvB; rw [if_neg h4, if_pos h5]
    rw [e0]
    have i2 : (kd == 5) = true := by simp [h5]
    clear h4 h5 e0
    by_cases ht : 0 < tr
    · rw [decide_eq_true ht]
      go_enter Tryz.func38, Tryz.ntmps38
      go_upto_region 1 with fail
      rw [← hW1]
      clear hW1
      go_wp2_with fail
      go_ret
      exact ⟨rfl, K1.out⟩
    · rw [decide_eq_false ht]
      go_enter Tryz.func38, Tryz.ntmps38
      go_upto_region 1 with fail
      rw [← hW1]
      clear hW1
      go_wp2_with fail
      go_ret
      exact ⟨rfl, K1.out⟩
  · have e0 : gvB kd rs tr = (tr == 0) := by unfold gvB; rw [if_neg h4, if_neg h5, beq_dec]
    rw [e0]
    have i2 : (kd == 5) = false := by simp [h5]
    clear h4 h5 e0
    generalize hb : (tr == 0) = b at *
    go_enter Tryz.func38, Tryz.ntmps38
    go_upto_region 1 with fail
    rw [← hW1]
    clear hW1
    go_wp2_with fail
    go_ret
    exact ⟨rfl, K1.out⟩
end NetDg
end Go.Proofs.YtgbbpliihglijaaGreat
