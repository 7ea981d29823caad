/- delta's Set with numbers that are not valid, and State. Conditions: the engine lies in memory. Made by gnDt.py. -/
import Derived.Test.YtgbbpliihglijaaGreatNetDs
import Derived.Test.YtgbbpliihglijaaGreatNetBp
namespace Go.Proofs.YtgbbpliihglijaaGreat
open Go Go.RowKit
namespace NetDt
open Kit TermM TermI NetM NetN NetK NetA NetC NetI NetMk NetNu NetOk NetEv NetBo NetMb NetVv NetDn NetDg NetDc NetTn NetDp NetEm NetLt NetDx NetDw NetDu NetDs
/-- Ascending lists with the same members are the same. -/
theorem asc_eq : ∀ {a b : List Int}, a.Pairwise (· < ·) → b.Pairwise (· < ·) → (∀ x, x ∈ a ↔ x ∈ b) → a = b
  | [], [], _, _, _ => rfl
  | [], y :: b, _, _, h => absurd ((h y).2 (List.mem_cons_self ..)) (by simp)
  | x :: a, [], _, _, h => absurd ((h x).1 (List.mem_cons_self ..)) (by simp)
  | x :: a, y :: b, ha, hb, h => by
    obtain ⟨ha1, ha2⟩ := List.pairwise_cons.1 ha
    obtain ⟨hb1, hb2⟩ := List.pairwise_cons.1 hb
    have e : x = y := by
      rcases List.mem_cons.1 ((h x).1 (List.mem_cons_self ..)) with e | e
      · exact e
      · rcases List.mem_cons.1 ((h y).2 (List.mem_cons_self ..)) with e2 | e2
        · exact e2.symm
        · have := hb1 x e
          have := ha1 y e2
          omega
    subst e
    congr 1
    refine asc_eq ha2 hb2 fun z => ?_
    constructor
    · intro hz
      rcases List.mem_cons.1 ((h z).1 (List.mem_cons_of_mem _ hz)) with e | e
      · subst e
        have := ha1 z hz
        omega
      · exact e
    · intro hz
      rcases List.mem_cons.1 ((h z).2 (List.mem_cons_of_mem _ hz)) with e | e
      · subst e
        have := hb1 z hz
        omega
      · exact e
theorem of_members {l : List Int} {m : Nat} (h : numsB l m = true) : numsOf (memB l m) = l := by
  have hr := nums_mem h
  unfold numsOf
  refine asc_eq (NetBp.nums_pw _ _).1 (nums_pw h) fun x => ?_
  rw [NetBp.nums_mem, memb_len]
  constructor
  · rintro ⟨j, hj, rfl, hs⟩
    rw [memb_get hj (fun x hx => (hr x hx).1)] at hs
    exact of_decide_eq_true (Option.some.inj hs)
  · intro hx
    have := hr x hx
    refine ⟨x.toNat, by omega, by omega, ?_⟩
    rw [memb_get (by omega) (fun x hx => (hr x hx).1), show ((x.toNat : Nat) : Int) = x by omega, decide_eq_true hx]
def StN (L : List Int) (w : World) (v : Value) : Prop := ∀ z, Below w.heap.size w z → RowE KN (fun b => b < z.heap.size) z L v
theorem StN.of {B : Nat} {L : List Int} {w : World} {v : Value} (h : RowE KN (fun b => B ≤ b ∧ b < w.heap.size) w L v) : StN L w v := fun _ q => (h.keep fun b o hb => q.cell (p := ⟨b, o, none⟩) hb.2).wide fun _ hb => Nat.lt_of_lt_of_le hb.2 q.size
theorem StN.step {L : List Int} {w w' : World} {v : Value} (h : StN L w v) (q : Below w.heap.size w w') : StN L w' v := fun z k => h z (q.trans (k.mono q.size))
/-- Two rows of numbers. -/
def StaE (S T : List Int) (w : World) (e : Ending) (w' : World) : Prop := ∃ u v, e = .returned (.tuple #[u, v]) ∧ StN S w' u ∧ StN T w' v ∧ Below w.heap.size w w'
set_option maxRecDepth 100000 in
set_option maxHeartbeats 6400000 in
theorem state_any (n : Nt) (A F M : List Bool) (w : World) (ge gb gv cb cv : Nat) (R : List Value) (vf vm : Value) (wk : Int) (hF : F.length ≤ 1000000) (hM : M.length ≤ 1000000)
    (EU : EngU n ge gb gv cb cv R A F M vf vm wk w) :
    Calls Tryz.prog 11 #[.pointer (some ⟨ge, 0, none⟩)] w (StaE (numsOf F) (numsOf M) w) := by
  obtain ⟨pf, cf, rfl⟩ := EU.rf.form
  obtain ⟨pm, cm, rfl⟩ := EU.rm.form
  have RT := Lib.hid (returned_live ge w EU.eng.self)
  have CE := Lib.hid (fun w' (q : Below w.heap.size w w') => show w'.cell? ⟨ge, 3, none⟩ = some (.slice pf F.length cf) ∧ w'.cell? ⟨ge, 4, none⟩ = some (.slice pm M.length cm) from ⟨(EngU.below EU q).f3, (EngU.below EU q).f4⟩)
  have N1 := Lib.hid (fun w' (q : Below w.heap.size w w') => numbers_any F _ w' _ (EngU.below EU q).rf (fun _ h => h.1) hF)
  have N2 := Lib.hid (fun w' (q : Below w.heap.size w w') => numbers_any M _ w' _ (EngU.below EU q).rm (fun _ h => h.1) hM)
  clear EU
  go_enter Tryz.func11, Tryz.ntmps11
  go_wp2_with fail
  refine RT.out.mono ?_
  rintro e w2 ⟨rfl, rfl⟩
  obtain ⟨x3, x4⟩ := CE.out w (Below.refl _ _)
  go_upto_region 3 with fail
  clear x3 x4
  go_cut [2, 3] (fun s t wx => Hid (StN (numsOf F) wx s) ∧ Hid (StN (numsOf M) wx t) ∧ Hid (Below w.heap.size w wx))
  case first =>
    have hq0 : Hid (Below w.heap.size w w.drew) := Lib.hid (Below.refl _ _).drew
    obtain ⟨x3, x4⟩ := CE.out _ hq0.out
    go_region_held3 (fun w' => w'.cell? ⟨ge, 3, none⟩ = some (.slice pf F.length cf) ∧ w'.cell? ⟨ge, 4, none⟩ = some (.slice pm M.length cm))
      (first | (with_reducible assumption) | (with_reducible exact ⟨‹_›, ‹_›⟩) | (with_reducible refine CE.out _ ?_; repeat (first | (with_reducible exact Hid.out (by assumption)) | (with_reducible exact Below.refl _ _) | (with_reducible refine Below.drew ?_))))
      (first
        | (go_at_call 31; (try go_split_ands); (with_reducible refine (N1.out _ (by repeat (first | (with_reducible exact Hid.out (by assumption)) | (with_reducible exact Below.refl _ _) | (with_reducible refine Below.drew ?_)))).mono ?_); rintro e wa ⟨ua, rfl, ra, qa⟩; have RA := Lib.hid (StN.of ra); have QA := Lib.hid qa; (have QG : Hid (Below w.heap.size w wa) := Lib.hid (by (refine next0 ?_ qa; repeat (first | (with_reducible exact Hid.out (by assumption)) | (with_reducible exact Below.refl _ _) | (with_reducible refine Below.drew ?_))))); clear ra qa; obtain ⟨x3, x4⟩ := CE.out _ QG.out)
        | (go_at_call 31; (try go_split_ands); (with_reducible refine (N2.out _ (by repeat (first | (with_reducible exact Hid.out (by assumption)) | (with_reducible exact Below.refl _ _) | (with_reducible refine Below.drew ?_)))).mono ?_); rintro e wb ⟨ub, rfl, rb, qb⟩; have RB := Lib.hid (StN.of rb); have QB := Lib.hid qb; (have QH : Hid (Below w.heap.size w wb) := Lib.hid (by (refine next0 ?_ qb; repeat (first | (with_reducible exact Hid.out (by assumption)) | (with_reducible exact Below.refl _ _) | (with_reducible refine Below.drew ?_))))); clear rb qb; obtain ⟨x3, x4⟩ := CE.out _ QH.out))
    all_goals
      go_wp2_with fail
      go_meet
      refine ⟨?_, ?_, ?_⟩
      · first | (with_reducible exact RA) | exact Lib.hid (RA.out.step (by (repeat (with_reducible refine Below.drew ?_)); first | (with_reducible exact Below.refl _ _) | (first | (exact QB.out) | (refine undrew ?_; (first | (exact QB.out) | (refine undrew ?_; (first | (exact QB.out) | (refine undrew ?_; (first | (exact QB.out) | (refine undrew ?_; (first | (exact QB.out) | (refine undrew ?_; (first | (exact QB.out) | (refine undrew ?_; (first | (exact QB.out) | (refine undrew ?_; (first | (exact QB.out) | (refine undrew ?_; (first | (exact QB.out) | (refine undrew ?_; (first | (exact QB.out) | (refine undrew ?_; (first | (exact QB.out) | (refine undrew ?_; (first | (exact QB.out) | (refine undrew ?_; (first | (exact QB.out) | (refine undrew ?_; (first | (exact QB.out) | (refine undrew ?_; (first | (exact QB.out))))))))))))))))))))))))))))))))
      · first | (with_reducible exact RB) | exact Lib.hid (RB.out.step (by (repeat (with_reducible refine Below.drew ?_)); first | (with_reducible exact Below.refl _ _) | (first | (exact QA.out) | (refine undrew ?_; (first | (exact QA.out) | (refine undrew ?_; (first | (exact QA.out) | (refine undrew ?_; (first | (exact QA.out) | (refine undrew ?_; (first | (exact QA.out) | (refine undrew ?_; (first | (exact QA.out) | (refine undrew ?_; (first | (exact QA.out) | (refine undrew ?_; (first | (exact QA.out) | (refine undrew ?_; (first | (exact QA.out) | (refine undrew ?_; (first | (exact QA.out) | (refine undrew ?_; (first | (exact QA.out) | (refine undrew ?_; (first | (exact QA.out) | (refine undrew ?_; (first | (exact QA.out) | (refine undrew ?_; (first | (exact QA.out) | (refine undrew ?_; (first | (exact QA.out))))))))))))))))))))))))))))))))
      · exact Lib.hid (by repeat (first | (with_reducible exact Hid.out (by assumption)) | (with_reducible exact Below.refl _ _) | (with_reducible refine Below.drew ?_)))
  case rest =>
  generalize hww : wc = w7 at *
  clear hww
  obtain ⟨r1, r2, q7⟩ := hcut
  obtain ⟨p1, c1, rfl⟩ := (r1.out _ (Below.refl _ _)).form
  obtain ⟨p2, c2, rfl⟩ := (r2.out _ (Below.refl _ _)).form
  go_wp2_with fail
  refine bodyPost_ret (v := .tuple #[.slice p1 (numsOf F).length c1, .slice p2 (numsOf M).length c2]) (by simp [results, Tryz.results11, go_sem]) rfl ?_
  exact ⟨_, _, rfl, r1.out, r2.out, q7.out⟩
end NetDt
end Go.Proofs.YtgbbpliihglijaaGreat
