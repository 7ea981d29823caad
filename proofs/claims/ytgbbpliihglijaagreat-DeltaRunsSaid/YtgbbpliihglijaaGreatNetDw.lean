/- delta's update, its state: all gates take their values for the facts and moves that the engine holds. Conditions: the engine lies in memory, its rows apart from it; a valid network. Made by gnDu.py. -/
import Derived.Test.YtgbbpliihglijaaGreatNetDx
import Derived.Test.YtgbbpliihglijaaGreatNetRy
import Derived.BigQuiet
namespace Go.Proofs.YtgbbpliihglijaaGreat
open Go Go.RowKit
namespace NetDw
open Kit TermM TermI NetM NetN NetK NetA NetC NetI NetMk NetNu NetOk NetEv NetBo NetDn NetDg NetDc NetTn NetDp NetEm NetLt NetDx
def okE (ge gb gv : Nat) (w : World) (q : Nat) : Prop := q < w.heap.size ∧ q ≠ ge ∧ q ≠ gb ∧ q ≠ gv
def ex3 (ge gb gv : Nat) (q : Nat) : Prop := q = ge ∨ q = gb ∨ q = gv
def ex4 (ge gb gv gr : Nat) (q : Nat) : Prop := q = ge ∨ q = gb ∨ q = gv ∨ q = gr
/-- An engine in memory with its facts, moves, work and readers. -/
structure EngU (n : Nt) (ge gb gv cb cv : Nat) (R : List Value) (A F M : List Bool) (vf vm : Value) (wk : Int) (w : World) : Prop where
  eng : EngM w ge gb gv n.gates.length cb cv (kdL n) (trL A n) R A
  f3 : w.cell? ⟨ge, 3, none⟩ = some vf
  f4 : w.cell? ⟨ge, 4, none⟩ = some vm
  f5 : w.cell? ⟨ge, 5, none⟩ = some (.int .i64 wk)
  free : ∀ q : Nat, w.frozen? ⟨ge, q, none⟩ = false
  lte : ge < w.heap.size
  ltb : gb < w.heap.size
  ltv : gv < w.heap.size
  rf : RowE KB (okE ge gb gv w) w F vf
  rm : RowE KB (okE ge gb gv w) w M vm
  rr : ∀ (j : Nat) (v : Value), R[j]? = some v → RowE KN (okE ge gb gv w) w (rdN n j) v
theorem EngM.put5 {w : World} {ge gb gv m cb cv q : Nat} {K : List (Int × Int × Int)} {T : List Int} {R : List Value} {V : List Bool} (h : EngM w ge gb gv m cb cv K T R V) (hq : 3 ≤ q) (u : Value) : EngM (w.setCell ⟨ge, q, none⟩ u) ge gb gv m cb cv K T R V := by
  have oth : ∀ b o : Nat, b ≠ ge ∨ o ≠ q → (w.setCell ⟨ge, q, none⟩ u).cell? ⟨b, o, none⟩ = w.cell? ⟨b, o, none⟩ := fun b o hb => World.cell?_setCell_other _ _ _ _ (by intro e; injection e with e1 e2; omega)
  have n1 := h.ne1
  have n2 := h.ne2
  exact ⟨h.lenK, h.lenT, h.lenR, h.lenV, (oth _ _ (Or.inr (by omega))).trans h.self, (oth _ _ (Or.inr (by omega))).trans h.gates, (oth _ _ (Or.inr (by omega))).trans h.values,
    fun i c hi => (oth _ _ (Or.inl fun e => n2 e.symm)).trans (h.val i c hi), fun i a b c hi => ⟨(oth _ _ (Or.inl fun e => n1 e.symm)).trans (h.kind i a b c hi).1, (oth _ _ (Or.inl fun e => n1 e.symm)).trans (h.kind i a b c hi).2.1, (oth _ _ (Or.inl fun e => n1 e.symm)).trans (h.kind i a b c hi).2.2⟩,
    fun i t hi => (oth _ _ (Or.inl fun e => n1 e.symm)).trans (h.trues i t hi), fun i v hi => (oth _ _ (Or.inl fun e => n1 e.symm)).trans (h.readers i v hi), fun q => by rw [World.frozen?_setCell]; exact h.freeb q, fun q => by rw [World.frozen?_setCell]; exact h.freev q, h.ne1, h.ne2, h.ne3⟩
theorem row_lt {α : Type} {K : Ke α} {ge gb gv gr : Nat} {w w' : World} {l : List α} {v : Value} (h : RowE K (okE ge gb gv w) w l v) (hg : w.heap.size ≤ gr) (q : Lt (ex4 ge gb gv gr) w w') : RowE K (fun b => okE ge gb gv w b) w' l v :=
  h.keep fun b o hb => q.cell hb.1 fun e => by rcases e with e | e | e | e <;> first | exact hb.2.1 e | exact hb.2.2.1 e | exact hb.2.2.2 e | (have := hb.1; omega)
/-- The state of an update before gate i. -/
structure UpI (n : Nt) (ge gb gv gr cb cv : Nat) (R : List Value) (A B : List Bool) (vf vm : Value) (i : Nat) (w wr : World) : Prop where
  eng : EngM wr ge gb gv n.gates.length cb cv (kdL n) (trL (mixL A B i) n) R (mixL A B i)
  mks : MkM wr gr n.gates.length (rcL A B n i)
  f3 : wr.cell? ⟨ge, 3, none⟩ = some vf
  f4 : wr.cell? ⟨ge, 4, none⟩ = some vm
  f5 : wr.cell? ⟨ge, 5, none⟩ = some (.int .i64 (wkN A B n i))
  free : ∀ q : Nat, wr.frozen? ⟨ge, q, none⟩ = false
  lt : Lt (ex4 ge gb gv gr) w wr
  ltr : gr < wr.heap.size
/-- What lies still on the way of one gate. -/
structure UpZ (n : Nt) (ge gb gv gr cb cv : Nat) (R : List Value) (A B : List Bool) (vf vm : Value) (i k : Nat) (w wr : World) : Prop where
  eng : EngM wr ge gb gv n.gates.length cb cv (kdL n) (trL (mixL A B i) n) R (mixL A B i)
  mks : MkM wr gr n.gates.length (rcL A B n i)
  f3 : wr.cell? ⟨ge, 3, none⟩ = some vf
  f4 : wr.cell? ⟨ge, 4, none⟩ = some vm
  f5 : wr.cell? ⟨ge, 5, none⟩ = some (.int .i64 (k : Int))
  free : ∀ q : Nat, wr.frozen? ⟨ge, q, none⟩ = false
  lt : Lt (ex4 ge gb gv gr) w wr
  ltr : gr < wr.heap.size
section
variable {n : Nt} {ge gb gv gr cb cv : Nat} {R : List Value} {A B : List Bool} {vf vm : Value} {i k : Nat} {w wr : World}
theorem UpI.z (h : UpI n ge gb gv gr cb cv R A B vf vm i w wr) : UpZ n ge gb gv gr cb cv R A B vf vm i (wkN A B n i) w wr := ⟨h.eng, h.mks, h.f3, h.f4, h.f5, h.free, h.lt, h.ltr⟩
theorem UpZ.below {w' : World} (h : UpZ n ge gb gv gr cb cv R A B vf vm i k w wr) (q : Below wr.heap.size wr w') (h1 : ge < w.heap.size) (h2 : gb < w.heap.size) (h3 : gv < w.heap.size) : UpZ n ge gb gv gr cb cv R A B vf vm i k w w' := by
  have hs := h.lt.size
  have c : ∀ b o : Nat, (b = ge ∨ b = gb ∨ b = gv) → w'.cell? ⟨b, o, none⟩ = wr.cell? ⟨b, o, none⟩ ∧ w'.frozen? ⟨b, o, none⟩ = wr.frozen? ⟨b, o, none⟩ := fun b o hb => by
    have hl : b < wr.heap.size := by rcases hb with rfl | rfl | rfl <;> omega
    exact ⟨q.cell (p := ⟨b, o, none⟩) hl, q.frozen (p := ⟨b, o, none⟩) hl⟩
  exact ⟨h.eng.keep c, h.mks.keep fun o => ⟨q.cell (p := ⟨gr, o, none⟩) h.ltr, q.frozen (p := ⟨gr, o, none⟩) h.ltr⟩, (c ge 3 (Or.inl rfl)).1.trans h.f3, (c ge 4 (Or.inl rfl)).1.trans h.f4, (c ge 5 (Or.inl rfl)).1.trans h.f5, fun q => (c ge q (Or.inl rfl)).2.trans (h.free q), h.lt.below q, Nat.lt_of_lt_of_le h.ltr q.size⟩
theorem UpZ.work (h : UpZ n ge gb gv gr cb cv R A B vf vm i k w wr) (hg : gr ≠ ge) (k2 : Nat) : UpZ n ge gb gv gr cb cv R A B vf vm i k2 w (wr.setCell ⟨ge, 5, none⟩ (.int .i64 (k2 : Int))) := by
  have oth : ∀ o : Nat, o ≠ 5 → (wr.setCell ⟨ge, 5, none⟩ (.int .i64 (k2 : Int))).cell? ⟨ge, o, none⟩ = wr.cell? ⟨ge, o, none⟩ := fun o ho => World.cell?_setCell_other _ _ _ _ (by intro e; injection e with e1 e2; omega)
  exact ⟨EngM.put5 h.eng (by omega) _, h.mks.other (fun e => hg e.symm), (oth 3 (by omega)).trans h.f3, (oth 4 (by omega)).trans h.f4, World.cell?_setCell_same _ _ _ h.f5, fun q => by rw [World.frozen?_setCell]; exact h.free q, h.lt.put (p := ⟨ge, 5, none⟩) (Or.inl (Or.inl rfl)) _, by have := h.ltr; simpa [World.setCell] using this⟩
/-- The gate keeps its value. -/
theorem UpZ.same (h : UpZ n ge gb gv gr cb cv R A B vf vm i k w wr) (ha : A.length = n.gates.length) (hb : B.length = n.gates.length) (hi : i < n.gates.length) (e : A[i]? = B[i]?) (hk : k = wkN A B n (i + 1)) : UpI n ge gb gv gr cb cv R A B vf vm (i + 1) w wr ∧ chN A B (i + 1) = chN A B i := by
  have d : dif A B (i : Int) = false := by
    unfold dif vAt
    rw [List.getD_eq_getElem?_getD, List.getD_eq_getElem?_getD, Int.toNat_natCast, e]
    simp
  subst hk
  refine ⟨⟨?_, ?_, h.f3, h.f4, h.f5, h.free, h.lt, h.ltr⟩, cntp_no d⟩
  · rw [mix_same ha hb hi e]
    exact h.eng
  · rw [rc_same d]
    exact h.mks
/-- The gate takes its other value. -/
theorem UpZ.other {w' : World} {b : Bool} (h : UpZ n ge gb gv gr cb cv R A B vf vm i k w wr) (dk : DOk n) (ha : A.length = n.gates.length) (hb : B.length = n.gates.length) (hi : i < n.gates.length) (e : A[i]? = some (!b)) (e2 : B[i]? = some b) (hk : k = wkN A B n (i + 1)) (hg : ge ≠ gb ∧ ge ≠ gv ∧ gr ≠ ge) (h1 : ge < w.heap.size)
    (c : ChE ge gb gv gr n.gates.length cb cv (kdL n) (tAddL (stepOf b) (trL (mixL A B i) n) (rdN n i)) R ((mixL A B i).set i b) (markL (rcL A B n i) (rdN n i)) wr w') : UpI n ge gb gv gr cb cv R A B vf vm (i + 1) w w' ∧ chN A B (i + 1) = chN A B i + 1 := by
  have d : dif A B (i : Int) = true := by
    unfold dif vAt
    rw [List.getD_eq_getElem?_getD, List.getD_eq_getElem?_getD, Int.toNat_natCast, e, e2]
    cases b <;> rfl
  have hs := h.lt.size
  have cc : ∀ o : Nat, w'.cell? ⟨ge, o, none⟩ = wr.cell? ⟨ge, o, none⟩ := fun o => c.lt.cell (by omega) fun x => by rcases x with x | x | x <;> first | exact hg.1 x | exact hg.2.1 x | exact hg.2.2 x.symm
  have cf : ∀ o : Nat, w'.frozen? ⟨ge, o, none⟩ = wr.frozen? ⟨ge, o, none⟩ := fun o => c.lt.frozen (by omega) fun x => by rcases x with x | x | x <;> first | exact hg.1 x | exact hg.2.1 x | exact hg.2.2 x.symm
  subst hk
  have em : (mixL A B i)[i]? = some (!b) := by rw [mix_get ha hb (by omega), if_neg (by omega), e]
  refine ⟨⟨?_, ?_, (cc 3).trans h.f3, (cc 4).trans h.f4, (cc 5).trans h.f5, fun q => (cf q).trans (h.free q), h.lt.trans (c.lt.mono fun q x => by rcases x with x | x | x; exact Or.inr (Or.inl x); exact Or.inr (Or.inr (Or.inl x)); exact Or.inr (Or.inr (Or.inr x))), Nat.lt_of_lt_of_le h.ltr c.lt.size⟩, cntp_yes d⟩
  · rw [mix_next ha hb hi e2, tr_change dk (mix_len ha hb (by omega)) hi em]
    exact c.eng
  · rw [rc_next d]
    exact c.mks
end
theorem tr_bound {f : Tm → Bool} {n : Nt} (h : chkN f n = 0) (V : List Bool) : ∀ t ∈ trL V n, 0 ≤ t ∧ t ≤ 100000 := by
  intro t ht
  unfold trL at ht
  obtain ⟨g, hg, rfl⟩ := List.mem_map.1 ht
  obtain ⟨k, hk⟩ := List.mem_iff_getElem?.1 hg
  have h1 := NetRy.gate_lin h hk
  have h2 := (List.getElem?_eq_some_iff.1 hk).1
  have h3 := (nok h).few
  have h4 := tr_le V g.2.2
  omega
end NetDw
end Go.Proofs.YtgbbpliihglijaaGreat
