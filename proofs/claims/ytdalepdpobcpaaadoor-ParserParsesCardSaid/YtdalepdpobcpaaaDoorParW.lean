/- whole's deferred closures: a violation is caught and told; without a panic nothing happens. No conditions. -/
import Derived.Test.YtdalepdpobcpaaaDoorParI
import Derived.Defers
import Derived.Recover
namespace Go.Proofs.YtdalepdpobcpaaaDoor
open Go Go.RowKit
namespace ParW
open Kit LexM TermM TermI TermU LexP ParM ParA ParB ParC ParD ParK ParE ParF ParG ParH ParI
/-- Of what was there only two blocks may have turned. -/
def Ch2 (g h : Nat) (a b : World) : Prop := b.os = a.os ∧ b.tape = a.tape ∧ b.output = a.output ∧ a.heap.size ≤ b.heap.size ∧ ∀ i, i < a.heap.size → i ≠ g → i ≠ h → b.heap[i]? = a.heap[i]?
theorem Ch2.below {g h : Nat} {a b : World} (k : Below a.heap.size a b) : Ch2 g h a b := ⟨k.os, k.tape, k.output, k.size, fun i hi _ _ => k.block i hi⟩
theorem Ch2.put {g h : Nat} {a b : World} (k : Ch2 g h a b) {p : Addr} (hp : p.block = g ∨ p.block = h ∨ a.heap.size ≤ p.block) (u : Value) : Ch2 g h a (b.setCell p u) := by
  obtain ⟨k1, k2, k3, k4, k5⟩ := k
  refine ⟨k1, k2, k3, Nat.le_trans k4 (by simp [World.setCell]), fun i hi h1 h2 => (Below.heap_setCell _ _ _ _ (fun e => ?_)).trans (k5 i hi h1 h2)⟩
  rcases hp with hp | hp | hp
  · exact h1 (by rw [e, hp])
  · exact h2 (by rw [e, hp])
  · omega
set_option maxRecDepth 100000 in
set_option maxHeartbeats 1600000 in
theorem catch_ds (ga ge : Nat) (a0 e0 : Value) (a er : Int) (w : World) (hne : ga ≠ ge) (ha : Has w ga #[a0]) (he : Has w ge #[e0]) :
    CallsD Tryd.prog 45 #[.pointer (some ⟨ga, 0, none⟩), .pointer (some ⟨ge, 0, none⟩)] (.panicking (PE a er)) w fun e u' w' =>
      e = .returned (.tuple #[]) ∧ u' = .panicking [{ v := .iface 75 (.agg #[.int .i64 a, .int .i64 er]), recovered := true }] ∧ Has w' ga #[.int .i64 a] ∧ Has w' ge #[.int .i64 er] ∧ Ch2 ga ge w w' := by
  have x1 := ha.cell 0
  have x2 := ha.free 0
  have y1 := he.cell 0
  have y2 := he.free 0
  have z1 := ha.lt
  have z2 := he.lt
  refine callsD_of_wpS Tryd.func45 rfl fun c₀ cs hu => ?_
  have e : ((#[.pointer (some ⟨ga, 0, none⟩), .pointer (some ⟨ge, 0, none⟩)] : Array Value) ++ Array.replicate (Tryd.f45.ntmps - (#[.pointer (some ⟨ga, 0, none⟩), .pointer (some ⟨ge, 0, none⟩)] : Array Value).size) undef) = #[.pointer (some ⟨ga, 0, none⟩), .pointer (some ⟨ge, 0, none⟩), undef, undef, undef, undef, undef, undef, undef, undef, undef, undef, undef, undef] := by kernel_rfl
  rw [e]
  clear e
  apply wpS_seq
  apply wpS_region
  generalize hQ : Exit.thenS _ _ = Q
  have hrec : recoverD (c₀ :: cs) = some (.iface 75 (.agg #[.int .i64 a, .int .i64 er]), { c₀ with mode := .panicking [{ v := .iface 75 (.agg #[.int .i64 a, .int .i64 er]), recovered := true }] } :: cs) := by
    simp [recoverD, hu]
  generalize c₀ :: cs = CS at *
  have TA : ∀ W, (Instr.typeAssert (.iface 75 (.agg #[.int .i64 a, .int .i64 er])) 20 75 true).run Tryd.prog W = .ok (.tuple #[.agg #[.int .i64 a, .int .i64 er], .bool true]) W := fun W => by kernel_rfl
  simp [wpOpsS, go_sem, hrec, TA]
  rw [← hQ]
  simp only [Exit.thenS]
  clear hQ hrec TA
  apply wpS_seq
  apply wpS_region
  generalize hQ : Exit.thenS _ _ = Q
  simp [wpOpsS, go_sem]
  rw [← hQ]
  simp only [Exit.thenS]
  refine wpS_cond (t := true) (by simp [Act.eval]) ?_
  simp only [if_true]
  refine wpS_of_wp ?_
  simp only [List.getElem?_toArray, List.getElem?_cons_zero] at x1 y1
  have HA := Lib.hid ha
  have HE := Lib.hid he
  clear ha he
  go_region
  have D0 : Ch2 ga ge w (((w.setCell ⟨ga, 0, none⟩ (.int .i64 a)).setCell ⟨ge, 0, none⟩ (.int .i64 er)).alloc (.cells #[.int .i64 a, .int .i64 er] 75)).drew := by
    have k := ((Ch2.below (g := ga) (h := ge) (Below.refl _ w)).put (p := ⟨ga, 0, none⟩) (Or.inl rfl) (.int .i64 a)).put (p := ⟨ge, 0, none⟩) (Or.inr (Or.inl rfl)) (.int .i64 er)
    have k2 := below_alloc ((w.setCell ⟨ga, 0, none⟩ (.int .i64 a)).setCell ⟨ge, 0, none⟩ (.int .i64 er)) (.cells #[.int .i64 a, .int .i64 er] 75)
    exact ⟨k2.os.trans k.1, k2.tape.trans k.2.1, k2.output.trans k.2.2.1, Nat.le_trans k.2.2.2.1 k2.size, fun i hi h1 h2 => (k2.block i (Nat.lt_of_lt_of_le hi k.2.2.2.1)).trans (k.2.2.2.2 i hi h1 h2)⟩
  refine ⟨rfl, _, rfl, .tuple #[], by simp [results, Tryd.results45, go_sem], rfl, rfl, ?_, ?_, D0⟩
  · exact (((HA.out.set 0 _).far (by exact hne) _).alloc _).drew
  · exact (((HE.out.far (by exact Ne.symm hne) _).set 0 _).alloc _).drew
set_option maxRecDepth 100000 in
set_option maxHeartbeats 1600000 in
theorem idle_ds (ga ge : Nat) (w : World) :
    CallsD Tryd.prog 45 #[.pointer (some ⟨ga, 0, none⟩), .pointer (some ⟨ge, 0, none⟩)] .returning w fun e u' w' =>
      e = .returned (.tuple #[]) ∧ u' = .returning ∧ Below w.heap.size w w' := by
  refine callsD_of_wpS Tryd.func45 rfl fun c₀ cs hu => ?_
  have e : ((#[.pointer (some ⟨ga, 0, none⟩), .pointer (some ⟨ge, 0, none⟩)] : Array Value) ++ Array.replicate (Tryd.f45.ntmps - (#[.pointer (some ⟨ga, 0, none⟩), .pointer (some ⟨ge, 0, none⟩)] : Array Value).size) undef) = #[.pointer (some ⟨ga, 0, none⟩), .pointer (some ⟨ge, 0, none⟩), undef, undef, undef, undef, undef, undef, undef, undef, undef, undef, undef, undef] := by kernel_rfl
  rw [e]
  clear e
  apply wpS_seq
  apply wpS_region
  generalize hQ : Exit.thenS _ _ = Q
  have hrec : recoverD (c₀ :: cs) = none := by
    simp [recoverD, hu]
  have TA : ∀ W, (Instr.typeAssert .nilIface 20 75 true).run Tryd.prog W = .ok (.tuple #[.agg #[.int .i64 0, .int .i64 0], .bool false]) W := fun W => by kernel_rfl
  have hcs : c₀ :: cs = { c₀ with mode := .returning } :: cs := by rw [← hu]
  generalize c₀ :: cs = CS at *
  simp [wpOpsS, go_sem, hrec, TA]
  rw [← hQ]
  simp only [Exit.thenS]
  clear hQ hrec TA
  apply wpS_seq
  apply wpS_region
  generalize hQ : Exit.thenS _ _ = Q
  simp [wpOpsS, go_sem]
  rw [← hQ]
  simp only [Exit.thenS]
  refine wpS_cond (t := false) (by simp [Act.eval]) ?_
  simp only [Bool.false_eq_true, if_false]
  refine wpS_of_wp (wp_skip ?_)
  refine ⟨rfl, _, hcs, .tuple #[], by simp [results, Tryd.results45, go_sem], rfl, rfl, ?_⟩
  exact below_alloc w _
set_option maxRecDepth 100000 in
set_option maxHeartbeats 1600000 in
theorem catch_rl (ga ge : Nat) (a0 e0 : Value) (a er : Int) (w : World) (hne : ga ≠ ge) (ha : Has w ga #[a0]) (he : Has w ge #[e0]) :
    CallsD Tryd.prog 53 #[.pointer (some ⟨ga, 0, none⟩), .pointer (some ⟨ge, 0, none⟩)] (.panicking (PE a er)) w fun e u' w' =>
      e = .returned (.tuple #[]) ∧ u' = .panicking [{ v := .iface 75 (.agg #[.int .i64 a, .int .i64 er]), recovered := true }] ∧ Has w' ga #[.int .i64 a] ∧ Has w' ge #[.int .i64 er] ∧ Ch2 ga ge w w' := by
  have x1 := ha.cell 0
  have x2 := ha.free 0
  have y1 := he.cell 0
  have y2 := he.free 0
  have z1 := ha.lt
  have z2 := he.lt
  refine callsD_of_wpS Tryd.func53 rfl fun c₀ cs hu => ?_
  have e : ((#[.pointer (some ⟨ga, 0, none⟩), .pointer (some ⟨ge, 0, none⟩)] : Array Value) ++ Array.replicate (Tryd.f53.ntmps - (#[.pointer (some ⟨ga, 0, none⟩), .pointer (some ⟨ge, 0, none⟩)] : Array Value).size) undef) = #[.pointer (some ⟨ga, 0, none⟩), .pointer (some ⟨ge, 0, none⟩), undef, undef, undef, undef, undef, undef, undef, undef, undef, undef, undef, undef] := by kernel_rfl
  rw [e]
  clear e
  apply wpS_seq
  apply wpS_region
  generalize hQ : Exit.thenS _ _ = Q
  have hrec : recoverD (c₀ :: cs) = some (.iface 75 (.agg #[.int .i64 a, .int .i64 er]), { c₀ with mode := .panicking [{ v := .iface 75 (.agg #[.int .i64 a, .int .i64 er]), recovered := true }] } :: cs) := by
    simp [recoverD, hu]
  generalize c₀ :: cs = CS at *
  have TA : ∀ W, (Instr.typeAssert (.iface 75 (.agg #[.int .i64 a, .int .i64 er])) 20 75 true).run Tryd.prog W = .ok (.tuple #[.agg #[.int .i64 a, .int .i64 er], .bool true]) W := fun W => by kernel_rfl
  simp [wpOpsS, go_sem, hrec, TA]
  rw [← hQ]
  simp only [Exit.thenS]
  clear hQ hrec TA
  apply wpS_seq
  apply wpS_region
  generalize hQ : Exit.thenS _ _ = Q
  simp [wpOpsS, go_sem]
  rw [← hQ]
  simp only [Exit.thenS]
  refine wpS_cond (t := true) (by simp [Act.eval]) ?_
  simp only [if_true]
  refine wpS_of_wp ?_
  simp only [List.getElem?_toArray, List.getElem?_cons_zero] at x1 y1
  have HA := Lib.hid ha
  have HE := Lib.hid he
  clear ha he
  go_region
  have D0 : Ch2 ga ge w (((w.setCell ⟨ga, 0, none⟩ (.int .i64 a)).setCell ⟨ge, 0, none⟩ (.int .i64 er)).alloc (.cells #[.int .i64 a, .int .i64 er] 75)).drew := by
    have k := ((Ch2.below (g := ga) (h := ge) (Below.refl _ w)).put (p := ⟨ga, 0, none⟩) (Or.inl rfl) (.int .i64 a)).put (p := ⟨ge, 0, none⟩) (Or.inr (Or.inl rfl)) (.int .i64 er)
    have k2 := below_alloc ((w.setCell ⟨ga, 0, none⟩ (.int .i64 a)).setCell ⟨ge, 0, none⟩ (.int .i64 er)) (.cells #[.int .i64 a, .int .i64 er] 75)
    exact ⟨k2.os.trans k.1, k2.tape.trans k.2.1, k2.output.trans k.2.2.1, Nat.le_trans k.2.2.2.1 k2.size, fun i hi h1 h2 => (k2.block i (Nat.lt_of_lt_of_le hi k.2.2.2.1)).trans (k.2.2.2.2 i hi h1 h2)⟩
  refine ⟨rfl, _, rfl, .tuple #[], by simp [results, Tryd.results53, go_sem], rfl, rfl, ?_, ?_, D0⟩
  · exact (((HA.out.set 0 _).far (by exact hne) _).alloc _).drew
  · exact (((HE.out.far (by exact Ne.symm hne) _).set 0 _).alloc _).drew
set_option maxRecDepth 100000 in
set_option maxHeartbeats 1600000 in
theorem idle_rl (ga ge : Nat) (w : World) :
    CallsD Tryd.prog 53 #[.pointer (some ⟨ga, 0, none⟩), .pointer (some ⟨ge, 0, none⟩)] .returning w fun e u' w' =>
      e = .returned (.tuple #[]) ∧ u' = .returning ∧ Below w.heap.size w w' := by
  refine callsD_of_wpS Tryd.func53 rfl fun c₀ cs hu => ?_
  have e : ((#[.pointer (some ⟨ga, 0, none⟩), .pointer (some ⟨ge, 0, none⟩)] : Array Value) ++ Array.replicate (Tryd.f53.ntmps - (#[.pointer (some ⟨ga, 0, none⟩), .pointer (some ⟨ge, 0, none⟩)] : Array Value).size) undef) = #[.pointer (some ⟨ga, 0, none⟩), .pointer (some ⟨ge, 0, none⟩), undef, undef, undef, undef, undef, undef, undef, undef, undef, undef, undef, undef] := by kernel_rfl
  rw [e]
  clear e
  apply wpS_seq
  apply wpS_region
  generalize hQ : Exit.thenS _ _ = Q
  have hrec : recoverD (c₀ :: cs) = none := by
    simp [recoverD, hu]
  have TA : ∀ W, (Instr.typeAssert .nilIface 20 75 true).run Tryd.prog W = .ok (.tuple #[.agg #[.int .i64 0, .int .i64 0], .bool false]) W := fun W => by kernel_rfl
  have hcs : c₀ :: cs = { c₀ with mode := .returning } :: cs := by rw [← hu]
  generalize c₀ :: cs = CS at *
  simp [wpOpsS, go_sem, hrec, TA]
  rw [← hQ]
  simp only [Exit.thenS]
  clear hQ hrec TA
  apply wpS_seq
  apply wpS_region
  generalize hQ : Exit.thenS _ _ = Q
  simp [wpOpsS, go_sem]
  rw [← hQ]
  simp only [Exit.thenS]
  refine wpS_cond (t := false) (by simp [Act.eval]) ?_
  simp only [Bool.false_eq_true, if_false]
  refine wpS_of_wp (wp_skip ?_)
  refine ⟨rfl, _, hcs, .tuple #[], by simp [results, Tryd.results53, go_sem], rfl, rfl, ?_⟩
  exact below_alloc w _
set_option maxRecDepth 100000 in
set_option maxHeartbeats 1600000 in
theorem catch_tm (ga ge : Nat) (a0 e0 : Value) (a er : Int) (w : World) (hne : ga ≠ ge) (ha : Has w ga #[a0]) (he : Has w ge #[e0]) :
    CallsD Tryd.prog 58 #[.pointer (some ⟨ga, 0, none⟩), .pointer (some ⟨ge, 0, none⟩)] (.panicking (PE a er)) w fun e u' w' =>
      e = .returned (.tuple #[]) ∧ u' = .panicking [{ v := .iface 75 (.agg #[.int .i64 a, .int .i64 er]), recovered := true }] ∧ Has w' ga #[.int .i64 a] ∧ Has w' ge #[.int .i64 er] ∧ Ch2 ga ge w w' := by
  have x1 := ha.cell 0
  have x2 := ha.free 0
  have y1 := he.cell 0
  have y2 := he.free 0
  have z1 := ha.lt
  have z2 := he.lt
  refine callsD_of_wpS Tryd.func58 rfl fun c₀ cs hu => ?_
  have e : ((#[.pointer (some ⟨ga, 0, none⟩), .pointer (some ⟨ge, 0, none⟩)] : Array Value) ++ Array.replicate (Tryd.f58.ntmps - (#[.pointer (some ⟨ga, 0, none⟩), .pointer (some ⟨ge, 0, none⟩)] : Array Value).size) undef) = #[.pointer (some ⟨ga, 0, none⟩), .pointer (some ⟨ge, 0, none⟩), undef, undef, undef, undef, undef, undef, undef, undef, undef, undef, undef, undef] := by kernel_rfl
  rw [e]
  clear e
  apply wpS_seq
  apply wpS_region
  generalize hQ : Exit.thenS _ _ = Q
  have hrec : recoverD (c₀ :: cs) = some (.iface 75 (.agg #[.int .i64 a, .int .i64 er]), { c₀ with mode := .panicking [{ v := .iface 75 (.agg #[.int .i64 a, .int .i64 er]), recovered := true }] } :: cs) := by
    simp [recoverD, hu]
  generalize c₀ :: cs = CS at *
  have TA : ∀ W, (Instr.typeAssert (.iface 75 (.agg #[.int .i64 a, .int .i64 er])) 20 75 true).run Tryd.prog W = .ok (.tuple #[.agg #[.int .i64 a, .int .i64 er], .bool true]) W := fun W => by kernel_rfl
  simp [wpOpsS, go_sem, hrec, TA]
  rw [← hQ]
  simp only [Exit.thenS]
  clear hQ hrec TA
  apply wpS_seq
  apply wpS_region
  generalize hQ : Exit.thenS _ _ = Q
  simp [wpOpsS, go_sem]
  rw [← hQ]
  simp only [Exit.thenS]
  refine wpS_cond (t := true) (by simp [Act.eval]) ?_
  simp only [if_true]
  refine wpS_of_wp ?_
  simp only [List.getElem?_toArray, List.getElem?_cons_zero] at x1 y1
  have HA := Lib.hid ha
  have HE := Lib.hid he
  clear ha he
  go_region
  have D0 : Ch2 ga ge w (((w.setCell ⟨ga, 0, none⟩ (.int .i64 a)).setCell ⟨ge, 0, none⟩ (.int .i64 er)).alloc (.cells #[.int .i64 a, .int .i64 er] 75)).drew := by
    have k := ((Ch2.below (g := ga) (h := ge) (Below.refl _ w)).put (p := ⟨ga, 0, none⟩) (Or.inl rfl) (.int .i64 a)).put (p := ⟨ge, 0, none⟩) (Or.inr (Or.inl rfl)) (.int .i64 er)
    have k2 := below_alloc ((w.setCell ⟨ga, 0, none⟩ (.int .i64 a)).setCell ⟨ge, 0, none⟩ (.int .i64 er)) (.cells #[.int .i64 a, .int .i64 er] 75)
    exact ⟨k2.os.trans k.1, k2.tape.trans k.2.1, k2.output.trans k.2.2.1, Nat.le_trans k.2.2.2.1 k2.size, fun i hi h1 h2 => (k2.block i (Nat.lt_of_lt_of_le hi k.2.2.2.1)).trans (k.2.2.2.2 i hi h1 h2)⟩
  refine ⟨rfl, _, rfl, .tuple #[], by simp [results, Tryd.results58, go_sem], rfl, rfl, ?_, ?_, D0⟩
  · exact (((HA.out.set 0 _).far (by exact hne) _).alloc _).drew
  · exact (((HE.out.far (by exact Ne.symm hne) _).set 0 _).alloc _).drew
set_option maxRecDepth 100000 in
set_option maxHeartbeats 1600000 in
theorem idle_tm (ga ge : Nat) (w : World) :
    CallsD Tryd.prog 58 #[.pointer (some ⟨ga, 0, none⟩), .pointer (some ⟨ge, 0, none⟩)] .returning w fun e u' w' =>
      e = .returned (.tuple #[]) ∧ u' = .returning ∧ Below w.heap.size w w' := by
  refine callsD_of_wpS Tryd.func58 rfl fun c₀ cs hu => ?_
  have e : ((#[.pointer (some ⟨ga, 0, none⟩), .pointer (some ⟨ge, 0, none⟩)] : Array Value) ++ Array.replicate (Tryd.f58.ntmps - (#[.pointer (some ⟨ga, 0, none⟩), .pointer (some ⟨ge, 0, none⟩)] : Array Value).size) undef) = #[.pointer (some ⟨ga, 0, none⟩), .pointer (some ⟨ge, 0, none⟩), undef, undef, undef, undef, undef, undef, undef, undef, undef, undef, undef, undef] := by kernel_rfl
  rw [e]
  clear e
  apply wpS_seq
  apply wpS_region
  generalize hQ : Exit.thenS _ _ = Q
  have hrec : recoverD (c₀ :: cs) = none := by
    simp [recoverD, hu]
  have TA : ∀ W, (Instr.typeAssert .nilIface 20 75 true).run Tryd.prog W = .ok (.tuple #[.agg #[.int .i64 0, .int .i64 0], .bool false]) W := fun W => by kernel_rfl
  have hcs : c₀ :: cs = { c₀ with mode := .returning } :: cs := by rw [← hu]
  generalize c₀ :: cs = CS at *
  simp [wpOpsS, go_sem, hrec, TA]
  rw [← hQ]
  simp only [Exit.thenS]
  clear hQ hrec TA
  apply wpS_seq
  apply wpS_region
  generalize hQ : Exit.thenS _ _ = Q
  simp [wpOpsS, go_sem]
  rw [← hQ]
  simp only [Exit.thenS]
  refine wpS_cond (t := false) (by simp [Act.eval]) ?_
  simp only [Bool.false_eq_true, if_false]
  refine wpS_of_wp (wp_skip ?_)
  refine ⟨rfl, _, hcs, .tuple #[], by simp [results, Tryd.results58, go_sem], rfl, rfl, ?_⟩
  exact below_alloc w _
set_option maxRecDepth 100000 in
set_option maxHeartbeats 1600000 in
theorem catch_ts (ga ge : Nat) (a0 e0 : Value) (a er : Int) (w : World) (hne : ga ≠ ge) (ha : Has w ga #[a0]) (he : Has w ge #[e0]) :
    CallsD Tryd.prog 64 #[.pointer (some ⟨ga, 0, none⟩), .pointer (some ⟨ge, 0, none⟩)] (.panicking (PE a er)) w fun e u' w' =>
      e = .returned (.tuple #[]) ∧ u' = .panicking [{ v := .iface 75 (.agg #[.int .i64 a, .int .i64 er]), recovered := true }] ∧ Has w' ga #[.int .i64 a] ∧ Has w' ge #[.int .i64 er] ∧ Ch2 ga ge w w' := by
  have x1 := ha.cell 0
  have x2 := ha.free 0
  have y1 := he.cell 0
  have y2 := he.free 0
  have z1 := ha.lt
  have z2 := he.lt
  refine callsD_of_wpS Tryd.func64 rfl fun c₀ cs hu => ?_
  have e : ((#[.pointer (some ⟨ga, 0, none⟩), .pointer (some ⟨ge, 0, none⟩)] : Array Value) ++ Array.replicate (Tryd.f64.ntmps - (#[.pointer (some ⟨ga, 0, none⟩), .pointer (some ⟨ge, 0, none⟩)] : Array Value).size) undef) = #[.pointer (some ⟨ga, 0, none⟩), .pointer (some ⟨ge, 0, none⟩), undef, undef, undef, undef, undef, undef, undef, undef, undef, undef, undef, undef] := by kernel_rfl
  rw [e]
  clear e
  apply wpS_seq
  apply wpS_region
  generalize hQ : Exit.thenS _ _ = Q
  have hrec : recoverD (c₀ :: cs) = some (.iface 75 (.agg #[.int .i64 a, .int .i64 er]), { c₀ with mode := .panicking [{ v := .iface 75 (.agg #[.int .i64 a, .int .i64 er]), recovered := true }] } :: cs) := by
    simp [recoverD, hu]
  generalize c₀ :: cs = CS at *
  have TA : ∀ W, (Instr.typeAssert (.iface 75 (.agg #[.int .i64 a, .int .i64 er])) 20 75 true).run Tryd.prog W = .ok (.tuple #[.agg #[.int .i64 a, .int .i64 er], .bool true]) W := fun W => by kernel_rfl
  simp [wpOpsS, go_sem, hrec, TA]
  rw [← hQ]
  simp only [Exit.thenS]
  clear hQ hrec TA
  apply wpS_seq
  apply wpS_region
  generalize hQ : Exit.thenS _ _ = Q
  simp [wpOpsS, go_sem]
  rw [← hQ]
  simp only [Exit.thenS]
  refine wpS_cond (t := true) (by simp [Act.eval]) ?_
  simp only [if_true]
  refine wpS_of_wp ?_
  simp only [List.getElem?_toArray, List.getElem?_cons_zero] at x1 y1
  have HA := Lib.hid ha
  have HE := Lib.hid he
  clear ha he
  go_region
  have D0 : Ch2 ga ge w (((w.setCell ⟨ga, 0, none⟩ (.int .i64 a)).setCell ⟨ge, 0, none⟩ (.int .i64 er)).alloc (.cells #[.int .i64 a, .int .i64 er] 75)).drew := by
    have k := ((Ch2.below (g := ga) (h := ge) (Below.refl _ w)).put (p := ⟨ga, 0, none⟩) (Or.inl rfl) (.int .i64 a)).put (p := ⟨ge, 0, none⟩) (Or.inr (Or.inl rfl)) (.int .i64 er)
    have k2 := below_alloc ((w.setCell ⟨ga, 0, none⟩ (.int .i64 a)).setCell ⟨ge, 0, none⟩ (.int .i64 er)) (.cells #[.int .i64 a, .int .i64 er] 75)
    exact ⟨k2.os.trans k.1, k2.tape.trans k.2.1, k2.output.trans k.2.2.1, Nat.le_trans k.2.2.2.1 k2.size, fun i hi h1 h2 => (k2.block i (Nat.lt_of_lt_of_le hi k.2.2.2.1)).trans (k.2.2.2.2 i hi h1 h2)⟩
  refine ⟨rfl, _, rfl, .tuple #[], by simp [results, Tryd.results64, go_sem], rfl, rfl, ?_, ?_, D0⟩
  · exact (((HA.out.set 0 _).far (by exact hne) _).alloc _).drew
  · exact (((HE.out.far (by exact Ne.symm hne) _).set 0 _).alloc _).drew
set_option maxRecDepth 100000 in
set_option maxHeartbeats 1600000 in
theorem idle_ts (ga ge : Nat) (w : World) :
    CallsD Tryd.prog 64 #[.pointer (some ⟨ga, 0, none⟩), .pointer (some ⟨ge, 0, none⟩)] .returning w fun e u' w' =>
      e = .returned (.tuple #[]) ∧ u' = .returning ∧ Below w.heap.size w w' := by
  refine callsD_of_wpS Tryd.func64 rfl fun c₀ cs hu => ?_
  have e : ((#[.pointer (some ⟨ga, 0, none⟩), .pointer (some ⟨ge, 0, none⟩)] : Array Value) ++ Array.replicate (Tryd.f64.ntmps - (#[.pointer (some ⟨ga, 0, none⟩), .pointer (some ⟨ge, 0, none⟩)] : Array Value).size) undef) = #[.pointer (some ⟨ga, 0, none⟩), .pointer (some ⟨ge, 0, none⟩), undef, undef, undef, undef, undef, undef, undef, undef, undef, undef, undef, undef] := by kernel_rfl
  rw [e]
  clear e
  apply wpS_seq
  apply wpS_region
  generalize hQ : Exit.thenS _ _ = Q
  have hrec : recoverD (c₀ :: cs) = none := by
    simp [recoverD, hu]
  have TA : ∀ W, (Instr.typeAssert .nilIface 20 75 true).run Tryd.prog W = .ok (.tuple #[.agg #[.int .i64 0, .int .i64 0], .bool false]) W := fun W => by kernel_rfl
  have hcs : c₀ :: cs = { c₀ with mode := .returning } :: cs := by rw [← hu]
  generalize c₀ :: cs = CS at *
  simp [wpOpsS, go_sem, hrec, TA]
  rw [← hQ]
  simp only [Exit.thenS]
  clear hQ hrec TA
  apply wpS_seq
  apply wpS_region
  generalize hQ : Exit.thenS _ _ = Q
  simp [wpOpsS, go_sem]
  rw [← hQ]
  simp only [Exit.thenS]
  refine wpS_cond (t := false) (by simp [Act.eval]) ?_
  simp only [Bool.false_eq_true, if_false]
  refine wpS_of_wp (wp_skip ?_)
  refine ⟨rfl, _, hcs, .tuple #[], by simp [results, Tryd.results64, go_sem], rfl, rfl, ?_⟩
  exact below_alloc w _
end ParW
end Go.Proofs.YtdalepdpobcpaaaDoor
