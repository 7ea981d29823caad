/- delta's change: a gate takes its other value; its readers' numbers and marks. Conditions: the engine lies in memory, the readers' row apart from it. Made by gnDx.py. -/
import Derived.Test.YtgbbpliihglijaaGreatNetEm
import Derived.Test.YtgbbpliihglijaaGreatNetDp
import Derived.Test.YtgbbpliihglijaaGreatNetLt
namespace Go.Proofs.YtgbbpliihglijaaGreat
open Go Go.RowKit
namespace NetDx
open Kit TermM TermI NetM NetN NetK NetA NetC NetI NetMk NetNu NetOk NetEv NetBo NetDn NetTn NetDp NetEm NetLt
/-- The marks in block gr. -/
structure MkM (w : World) (gr m : Nat) (M : List Bool) : Prop where
  len : M.length = m
  val : ∀ (j : Nat) (b : Bool), M[j]? = some b → w.cell? ⟨gr, j, none⟩ = some (.bool b)
  free : ∀ q : Nat, w.frozen? ⟨gr, q, none⟩ = false
theorem MkM.other {w : World} {gr m : Nat} {M : List Bool} {p : Addr} {u : Value} (h : MkM w gr m M) (hp : p.block ≠ gr) : MkM (w.setCell p u) gr m M :=
  ⟨h.len, fun j b hj => (World.cell?_setCell_other _ _ _ _ (by intro e; subst e; exact hp rfl)).trans (h.val j b hj), fun q => by rw [World.frozen?_setCell]; exact h.free q⟩
theorem MkM.keep {w w' : World} {gr m : Nat} {M : List Bool} (h : MkM w gr m M) (hc : ∀ o : Nat, w'.cell? ⟨gr, o, none⟩ = w.cell? ⟨gr, o, none⟩ ∧ w'.frozen? ⟨gr, o, none⟩ = w.frozen? ⟨gr, o, none⟩) : MkM w' gr m M :=
  ⟨h.len, fun j b hj => (hc j).1.trans (h.val j b hj), fun q => (hc q).2.trans (h.free q)⟩
theorem MkM.mark {w : World} {gr m : Nat} {M : List Bool} {r : Nat} (h : MkM w gr m M) (hr : r < m) : MkM (w.setCell ⟨gr, r, none⟩ (.bool true)) gr m (mark1 M (r : Int)) := by
  refine ⟨by unfold mark1; rw [List.length_set]; exact h.len, fun j b hj => ?_, fun q => by rw [World.frozen?_setCell]; exact h.free q⟩
  unfold mark1 at hj
  rw [Int.toNat_natCast, List.getElem?_set] at hj
  by_cases e : r = j
  · subst e
    rw [if_pos rfl, if_pos (by rw [h.len]; exact hr)] at hj
    rw [← Option.some.inj hj]
    obtain ⟨c0, hc0⟩ : ∃ c0, M[r]? = some c0 := ⟨M[r]'(by rw [h.len]; exact hr), by simp⟩
    exact World.cell?_setCell_same _ _ _ (h.val r c0 hc0)
  · rw [if_neg e] at hj
    exact (World.cell?_setCell_other _ _ _ _ (by intro e2; injection e2 with e3 e4; omega)).trans (h.val j b hj)
def stepOf (b : Bool) : Int := if b then 1 else -1
/-- The blocks that a change may touch. -/
def exC (gb gv gr : Nat) (i : Nat) : Prop := i = gb ∨ i = gv ∨ i = gr
/-- What a change leaves. -/
structure ChE (ge gb gv gr m cb cv : Nat) (K : List (Int × Int × Int)) (T : List Int) (R : List Value) (V M : List Bool) (w w' : World) : Prop where
  eng : EngM w' ge gb gv m cb cv K T R V
  mks : MkM w' gr m M
  lt : Lt (exC gb gv gr) w w'
set_option maxRecDepth 100000 in
set_option maxHeartbeats 6400000 in
theorem change_any (w : World) (ge gb gv gr m cb cv cr : Nat) (K : List (Int × Int × Int)) (T : List Int) (R : List Value) (V M : List Bool) (j : Nat) (b : Bool) (rd : List Int) (vr : Value) (ok : Nat → Prop)
    (EM : EngM w ge gb gv m cb cv K T R V) (MK : MkM w gr m M) (hb : V[j]? = some (!b)) (hR : R[j]? = some vr) (hrow : RowE KN ok w rd vr) (hok : ∀ q, ok q → q < w.heap.size ∧ q ≠ gb ∧ q ≠ gv ∧ q ≠ gr) (hgr : gr ≠ ge ∧ gr ≠ gb ∧ gr ≠ gv)
    (hnd : rd.Nodup) (hrd : ∀ x ∈ rd, 0 ≤ x ∧ x < (m : Int)) (hT : ∀ t ∈ T, 0 ≤ t ∧ t ≤ 100000) :
    Calls Tryz.prog 39 #[.pointer (some ⟨ge, 0, none⟩), .int .i64 j, .slice (some ⟨gr, 0, none⟩) m cr] w fun e w' => e = .returned (.tuple #[]) ∧ ChE ge gb gv gr m cb cv K (tAddL (stepOf b) T rd) R (V.set j b) (markL M rd) w w' := by
  obtain ⟨pr, crd, rfl⟩ := hrow.form
  have hjm : j < m := by have := (List.getElem?_eq_some_iff.1 hb).1; rw [EM.lenV] at this; exact this
  have j0 : (0 : Int) ≤ (j : Int) := by omega
  have j1 : (j : Int) < m := by omega
  have hcap : rd.length ≤ maxLen := by obtain ⟨_, h1, h2⟩ := hrow.cap; omega
  unfold maxLen at hcap
  have IRD := Lib.hid (fun k x (hx : rd[k]? = some x) w' (q : Lt (exC gb gv gr) w w') => show ∃ g o, pr = some ⟨g, o, none⟩ ∧ w'.cell? ⟨g, o + k, none⟩ = some (.int .i64 x) from by
    obtain ⟨g, o, e1, e2, _, e4⟩ := hrow.at hx
    have hq := hok g e2
    refine ⟨g, o, e1, (q.cell hq.1 (fun h => by rcases h with h | h | h <;> simp_all)).trans ?_⟩
    have := e4 0 _ rfl
    simpa [KN] using this)
  have TN := Lib.hid (fun k x (hx : rd[k]? = some x) => taddl_next (stepOf b) T rd hx)
  have MN := Lib.hid (fun k x (hx : rd[k]? = some x) => mark_next M rd hx)
  have TG : Hid (∀ (k : Nat) (r : Nat), rd[k]? = some (r : Int) → (tAddL (stepOf b) T (rd.take k))[r]? = T[r]?) := Lib.hid (fun k r hx => by
    have hk := (List.getElem?_eq_some_iff.1 hx).1
    rw [taddl_get _ _ _ _ (hnd.sublist (List.take_sublist _ _)) (fun x h => (hrd x (List.mem_of_mem_take h)).1)]
    have hno : (r : Int) ∉ rd.take k := fun h => by
      obtain ⟨i, hi, e⟩ := List.getElem_of_mem h
      rw [List.length_take] at hi
      rw [List.getElem_take] at e
      have e2 : rd[k] = (r : Int) := (List.getElem?_eq_some_iff.1 hx).2
      have := (List.getElem_inj hnd (h₀ := by omega) (h₁ := hk)).1 (e.trans e2.symm)
      omega
    cases T[r]? with
    | none => rfl
    | some t => simp [hno])
  have HRD := Lib.hid hrd
  have HT := Lib.hid hT
  have FT : Hid (tAddL (stepOf b) T (rd.take rd.length) = tAddL (stepOf b) T rd ∧ markL M (rd.take rd.length) = markL M rd) := Lib.hid (by rw [List.take_length]; exact ⟨rfl, rfl⟩)
  have NG := Lib.hid hgr
  have LT := Lib.hid EM.lenT
  have EM1 := Lib.hid (EM.setV (b := b) hjm)
  have MK1 := Lib.hid (MK.other (p := ⟨gv, j, none⟩) (u := .bool b) (fun e => hgr.2.2 e.symm))
  have L1 := Lib.hid ((Lt.refl (exC gb gv gr) w).put (p := ⟨gv, j, none⟩) (Or.inl (Or.inr (Or.inl rfl))) (.bool b))
  have V1 : Hid ((V.set j b)[j]? = some b) := Lib.hid (by rw [List.getElem?_set, if_pos rfl, if_pos (by rw [EM.lenV]; exact hjm)])
  have HR := Lib.hid hR
  have x1 := EM.values
  have x2 := EM.val j _ hb
  have x3 := EM.freev j
  clear EM MK hb hR hrow hok hgr hnd hrd hT
  obtain ⟨wx, hwx⟩ : ∃ z, z = (w.setCell ⟨gv, j, none⟩ (.bool b)).drew := ⟨_, rfl⟩
  have EM1 : Hid (EngM wx ge gb gv m cb cv K T R (V.set j b)) := Lib.hid (by rw [hwx]; exact EM1.out.keep fun b o _ => ⟨rfl, rfl⟩)
  have MK1 : Hid (MkM wx gr m M) := Lib.hid (by rw [hwx]; exact MK1.out.keep fun o => ⟨rfl, rfl⟩)
  have L1 : Hid (Lt (exC gb gv gr) w wx) := Lib.hid (by rw [hwx]; exact L1.out.below (Below.refl _ _).drew)
  have bnn : (!(!b)) = b := by simp
  go_enter Tryz.func39, Tryz.ntmps39
  go_upto_region 0 with fail
  go_cut [22] (fun s wz => wx = wz)
  case first =>
    go_region
    all_goals
      go_wp2_with fail
      go_meet
      first | exact hwx | exact hwx.trans (by rw [bnn]) | exact hwx.trans (by simp)
  case rest =>
  subst hcut
  clear hwx x1 x2 x3
  obtain ⟨V2, hV2⟩ : ∃ V2, V.set j b = V2 := ⟨_, rfl⟩
  rw [hV2] at EM1 V1
  have HV2 := Lib.hid hV2
  clear hV2
  have x1 := EM1.out.values
  have x2 := EM1.out.val j b V1.out
  have x4 := EM1.out.gates
  have x5 := EM1.out.readers j _ HR.out
  generalize hn : rd.length = n at *
  have HN := Lib.hid hn
  clear hn
  obtain ⟨st, hst⟩ : ∃ st, stepOf b = st := ⟨_, rfl⟩
  have ST1 : Hid (st = 1 ∨ st = -1) := Lib.hid (by rw [← hst]; unfold stepOf; cases b <;> simp)
  rw [hst] at TN TG FT
  go_upto_if 29 with fail
  go_cut [6] (fun s wz => s = .int .i64 st ∧ wx = wz)
  case first =>
    have e0 := Lib.hid hst
    clear hst
    cases b
    · have e1 : Hid (st = -1) := Lib.hid (by rw [← e0.out]; rfl)
      go_wp2_with fail
      go_meet
      exact ⟨by rw [e1.out], by first | rfl | trivial⟩
    · have e1 : Hid (st = 1) := Lib.hid (by rw [← e0.out]; rfl)
      go_wp2_with fail
      go_meet
      exact ⟨by rw [e1.out], by first | rfl | trivial⟩
  case rest =>
  obtain ⟨rfl, rfl⟩ := hcut
  have HST := Lib.hid hst
  clear hst
  go_wp2_with fail
  clear x1 x2 x4 x5
  go_loopw [39] (fun i wr => ∃ k : Nat, k ≤ n ∧ i = .int .i64 k ∧ Hid (EngM wr ge gb gv m cb cv K (tAddL st T (rd.take k)) R V2) ∧ Hid (MkM wr gr m (markL M (rd.take k))) ∧ Hid (Lt (exC gb gv gr) w wr)) (fun i _ => n - (intOf i).toNat)
  case atStart => exact ⟨0, Nat.zero_le _, rfl, EM1, MK1, L1⟩
  case round =>
    obtain ⟨k, hk, rfl, hE, hM, hL⟩ := hrel
    by_cases hlt : k < n
    · obtain ⟨x, hx⟩ : ∃ x, rd[k]? = some x := ⟨rd[k]'(by rw [HN.out]; exact hlt), by simp⟩
      obtain ⟨g, o, rfl, c1⟩ := IRD.out k x hx wr hL.out
      have hxr := HRD.out x (List.mem_of_getElem? hx)
      obtain ⟨r, rfl⟩ : ∃ r : Nat, x = (r : Int) := ⟨x.toNat, by omega⟩
      have hr : r < m := by omega
      obtain ⟨t, ht⟩ : ∃ t, T[r]? = some t := ⟨T[r]'(by rw [LT.out]; exact hr), by simp⟩
      have htb := HT.out t (List.mem_of_getElem? ht)
      have e1 := (TG.out k r hx).trans ht
      have y1 := hE.out.gates
      have y2 := hE.out.trues r t e1
      have y3 := hE.out.freeb (r * 5 + 3)
      obtain ⟨mb, hmb⟩ : ∃ mb, (markL M (rd.take k))[r]? = some mb := ⟨_, List.getElem?_eq_getElem (by rw [hM.out.len]; exact hr)⟩
      have t0 : (0 : Int) ≤ (k : Int) := by omega
      have t1 : (k : Int) < n := by omega
      have t2 : (0 : Int) ≤ (r : Int) := by omega
      have t3 : (r : Int) < m := by omega
      have st2 := ST1.out
      have hw : IntKind.i64.wrap (t + st) = t + st := by rw [IntKind.wrap_i64]; rcases st2 with e | e <;> omega
      have ET : Hid ((tAddL st T (rd.take k)).set r (t + st) = tAddL st T (rd.take (k + 1))) := Lib.hid (by
        rw [TN.out k _ hx]
        unfold tAdd
        rw [Int.toNat_natCast, t_get (V := tAddL st T (rd.take k)) (x := (r : Int)) (by rw [Int.toNat_natCast]; exact e1)])
      have EM2 : Hid (markL M (rd.take (k + 1)) = mark1 (markL M (rd.take k)) (r : Int)) := Lib.hid (MN.out k _ hx)
      have MO := Lib.hid (hM.out.other (p := ⟨gb, r * 5 + 3, none⟩) (u := .int .i64 (t + st)) (fun e => NG.out.2.1 e.symm))
      have E2 := Lib.hid (((hE.out.setT (j := r) (t := t + st) hr).other (p := ⟨gr, r, none⟩) (u := .bool true) ⟨NG.out.1, NG.out.2.1, NG.out.2.2⟩))
      have M2 := Lib.hid (MO.out.mark hr)
      have L2 := Lib.hid ((hL.out.put (p := ⟨gb, r * 5 + 3, none⟩) (Or.inl (Or.inl rfl)) (.int .i64 (t + st))).put (p := ⟨gr, r, none⟩) (Or.inl (Or.inr (Or.inr rfl))) (.bool true))
      rw [ET.out] at E2
      rw [← EM2.out] at M2
      have z1 := MO.out.val r mb hmb
      have z2 := MO.out.free r
      clear hx hxr ht e1 hmb ET EM2 MO st2 htb
      go_wp2_with fail
      go_roundw
      case rel => first | exact ⟨k + 1, by omega, by go_num, E2, M2, L2⟩ | ((repeat (apply Exists.intro)); refine ⟨?_, rfl⟩; exact ⟨k + 1, by omega, by go_num, E2, M2, L2⟩)
      case measure => simp [intOf] <;> omega
    · obtain rfl : k = n := by omega
      have CE : Hid (ChE ge gb gv gr m cb cv K (tAddL (stepOf b) T rd) R (V.set j b) (markL M rd) w wr) := Lib.hid (by
        have h1 := hE.out
        have h2 := hM.out
        rw [FT.out.1] at h1
        rw [FT.out.2] at h2
        rw [HST.out, HV2.out]
        exact ⟨h1, h2, hL.out⟩)
      go_wp2_with fail
      exact bodyPost_end (v := .tuple #[]) (by simp [results, Tryz.results39, go_sem]) rfl ⟨rfl, CE.out⟩
end NetDx
end Go.Proofs.YtgbbpliihglijaaGreat
