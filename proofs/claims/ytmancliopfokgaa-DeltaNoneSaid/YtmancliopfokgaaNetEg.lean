/- delta's engine as the laws see it: New, Set, Values, Value, Work, State. Conditions: a valid network. Made by gnEg.py. -/
import Derived.Test.YtmancliopfokgaaNetDe
import Derived.Test.YtmancliopfokgaaNetDv
namespace Go.Proofs.Ytmancliopfokgaa
open Go Go.RowKit
namespace NetEg
open Kit TermM TermI TermH NetM NetN NetK NetA NetC NetI NetMk NetNu NetOk NetEv NetBo NetMb NetS NetDn NetDp NetEm NetLt NetDx NetDw NetDs NetDt NetDe
/-- A live engine of a network, set to bases and inputs; its blocks lie from B on. -/
def Eg (n : Nt) (B ge gb gv : Nat) (st ip : List Int) (wk : Int) (w : World) : Prop :=
  (∃ (cb : Nat) (R : List Value) (vf vm : Value), EngU n ge gb gv cb n.gates.length R (valsN st ip n) (memB st n.bases.length) (memB ip n.inputs.length) vf vm wk w) ∧ B ≤ ge ∧ B ≤ gb ∧ B ≤ gv
section
variable {n : Nt} {B ge gb gv : Nat} {st ip st0 ip0 : List Int} {wk : Int} {w w' : World}
theorem Eg.below (h : Eg n B ge gb gv st ip wk w) (q : Below w.heap.size w w') : Eg n B ge gb gv st ip wk w' := by
  obtain ⟨⟨cb, R, vf, vm, h1⟩, h2⟩ := h
  exact ⟨⟨cb, R, vf, vm, EngU.below h1 q⟩, h2⟩
theorem Eg.self (h : Eg n B ge gb gv st ip wk w) : w.cell? ⟨ge, 0, none⟩ = some (.pointer (some ⟨ge, 0, none⟩)) := by
  obtain ⟨⟨cb, R, vf, vm, h1⟩, _⟩ := h
  exact h1.eng.self
theorem Eg.row (h : Eg n B ge gb gv st ip wk w) (hm : n.gates.length ≤ 1000000) : RowE KB (· < w.heap.size) w (valsN st ip n) (.slice (some ⟨gv, 0, none⟩) (valsN st ip n).length n.gates.length) := by
  obtain ⟨⟨cb, R, vf, vm, h1⟩, _⟩ := h
  refine ⟨_, _, rfl, (fun e => by cases e), by rw [h1.eng.lenV]; exact Nat.le_refl _, by unfold maxLen; omega, fun _ _ => trivial, fun _ => ⟨gv, 0, rfl, h1.ltv, fun i x hx j u hu => ?_⟩⟩
  have hj : j < [Value.bool x].length := (List.getElem?_eq_some_iff.1 hu).1
  obtain rfl : j = 0 := by simp at hj; omega
  have e : Value.bool x = u := Option.some.inj hu
  have e2 : 0 + i * KB.sz + 0 = i := by show 0 + i * 1 + 0 = i; omega
  rw [← e, e2]
  exact h1.eng.val i x hx
theorem values_eg (hm : n.gates.length ≤ 1000000) (h : Eg n B ge gb gv st ip wk w) : Calls Try.prog 15 #[.pointer (some ⟨ge, 0, none⟩)] w (BlE (valsN st ip n) w) := by
  obtain ⟨⟨cb, R, vf, vm, h1⟩, h2⟩ := id h
  exact NetDv.values_live ge _ w _ _ _ h.self (by rw [h1.eng.lenV]; exact h1.eng.values) (h.row hm) (fun _ hb => hb) (by rw [h1.eng.lenV]; exact hm)
theorem value_eg (g : Int) (hm : n.gates.length ≤ 1000000) (h : Eg n B ge gb gv st ip wk w) : Calls Try.prog 22 #[.pointer (some ⟨ge, 0, none⟩), .int .i64 g] w fun e w' => e = .returned (.bool (valB (valsN st ip n) g)) ∧ w = w' := by
  obtain ⟨⟨cb, R, vf, vm, h1⟩, h2⟩ := id h
  exact value_live ge _ g w _ _ _ h.self (by rw [h1.eng.lenV]; exact h1.eng.values) (h.row hm) (fun _ hb => hb)
theorem work_eg (h : Eg n B ge gb gv st ip wk w) : Calls Try.prog 18 #[.pointer (some ⟨ge, 0, none⟩)] w fun e w' => e = .returned (.int .i64 wk) ∧ w = w' := by
  obtain ⟨⟨cb, R, vf, vm, h1⟩, h2⟩ := id h
  exact work_live ge wk w h.self h1.f5
theorem state_eg (hb : n.bases.length ≤ 1000000) (hi : n.inputs.length ≤ 1000000) (b1 : numsB st n.bases.length = true ∧ numsB ip n.inputs.length = true) (h : Eg n B ge gb gv st ip wk w) : Calls Try.prog 12 #[.pointer (some ⟨ge, 0, none⟩)] w (StaE st ip w) := by
  obtain ⟨⟨cb, R, vf, vm, h1⟩, h2⟩ := h
  have := state_any n _ _ _ w ge gb gv cb _ R vf vm wk (by rw [memb_len]; exact hb) (by rw [memb_len]; exact hi) h1
  rw [of_members b1.1, of_members b1.2] at this
  exact this
theorem set_eg {f : Tm → Bool} (hck : chkN f n = 0) (hb : n.bases.length ≤ 1000000) (hi : n.inputs.length ≤ 1000000) (b1 : numsB st n.bases.length = true ∧ numsB ip n.inputs.length = true) {vs vi : Value} (h : Eg n B ge gb gv st0 ip0 wk w)
    (hs : RowE KN (· < w.heap.size) w st vs) (hip : RowE KN (· < w.heap.size) w ip vi) : Calls Try.prog 19 #[.pointer (some ⟨ge, 0, none⟩), vs, vi] w fun e w' =>
      e = .returned (.tuple #[.int .i64 (chN (valsN st0 ip0 n) (valsN st ip n) n.gates.length : Nat), .int .i64 0]) ∧ Eg n B ge gb gv st ip (wkN (valsN st0 ip0 n) (valsN st ip n) n n.gates.length : Nat) w' ∧ Lt (ex3 ge gb gv) w w' := by
  obtain ⟨⟨cb, R, vf, vm, h1⟩, h2⟩ := h
  refine (set_any n st0 ip0 st ip _ _ w ge gb gv cb _ R vf vm vs vi wk w.heap.size hck hb hi (memb_len _ _) (memb_len _ _) (Nat.le_refl _) hs hip b1 h1).mono ?_
  rintro e w' ⟨rfl, h3⟩
  obtain ⟨vf', vm', h4⟩ := h3.ex
  exact ⟨rfl, ⟨⟨cb, R, vf', vm', h4⟩, h2⟩, h3.lt⟩
theorem new_eg (h : Nh) (k : NetIn (· < w.heap.size) w n h) (hz : SzN n) (hck : chkN groundB n = 0) : Calls Try.prog 10 #[.agg (netC n h)] w fun e w' =>
      ∃ ge gb gv, e = .returned (.tuple #[.pointer (some ⟨ge, 0, none⟩), .int .i64 0]) ∧ Eg n w.heap.size ge gb gv [] [] 0 w' ∧ Below w.heap.size w w' := by
  refine (new_any n h w.heap.size w (Nat.le_refl _) k hz hck).mono ?_
  rintro e w' ⟨ge, gb, gv, cb, R, vf, vm, rfl, h1, h2, h3⟩
  exact ⟨ge, gb, gv, rfl, ⟨⟨cb, R, vf, vm, h1⟩, h2⟩, h3⟩
/-- A set engine touches its own blocks only. -/
theorem Eg.lt (h : Eg n B ge gb gv st ip wk w) {a b : World} (hB : B ≤ a.heap.size) (q : Lt (ex3 ge gb gv) a b) : Below B a b := by
  obtain ⟨_, h1, h2, h3⟩ := h
  exact q.toBelow hB fun i e => by rcases e with rfl | rfl | rfl <;> assumption
end
end NetEg
end Go.Proofs.Ytmancliopfokgaa
