/- evaluate.outputs and evaluate.Goals, where there is an error. Conditions: those of Values. Made by gnGo.py. -/
import Derived.Test.YtkfeliogglnngaaGreatNetTr
namespace Go.Proofs.YtkfeliogglnngaaGreat
open Go Go.RowKit
namespace NetGo
open Kit LexM TermM TermI TermH NetM NetN NetK NetA NetC NetI NetMk NetNu NetOk NetEv NetBo NetMb NetS NetVa NetVv NetTr
/-- The error of outputs of a role. -/
def ouE (g : Tm → Bool) (st ip : List Int) (n : Nt) (r : Int) : Int := if evE g st ip n ≠ 0 then evE g st ip n else if inB r n.roles.length = true then 0 else 8
theorem ou_ev {g : Tm → Bool} {st ip : List Int} {n : Nt} {r : Int} (h : evE g st ip n ≠ 0) : ouE g st ip n r = evE g st ip n := by unfold ouE; rw [if_pos h]
theorem ou_role {g : Tm → Bool} {st ip : List Int} {n : Nt} {r : Int} (h : evE g st ip n = 0) (h2 : inB r n.roles.length = false) : ouE g st ip n r = 8 := by unfold ouE; rw [if_neg (by simpa using h), if_neg (by rw [h2]; decide)]
theorem ou_ok {g : Tm → Bool} {st ip : List Int} {n : Nt} {r : Int} (h : evE g st ip n = 0) (h2 : inB r n.roles.length = true) : ouE g st ip n r = 0 := by unfold ouE; rw [if_neg (by simpa using h), if_pos h2]
set_option maxRecDepth 100000 in
set_option maxHeartbeats 3200000 in
theorem outputs_bad (n : Nt) (h : Nh) (st ip : List Int) (r : Int) (B : Nat) (w : World) (vl vs vi : Value) (hB : B ≤ w.heap.size) (k : NetIn (· < B) w n h) (hz : SzN n) (hs : RowE KN (· < B) w st vs) (hi : RowE KN (· < B) w ip vi) (hbad : ouE groundB st ip n r ≠ 0) :
    Calls Tryz.prog 42 #[.agg #[.slice h.gp n.gates.length h.gc, .slice h.rp n.roles.length h.rc, .slice h.bp n.bases.length h.bc, .slice h.ip n.inputs.length h.ic, .slice h.ap n.initial.length h.ac, .slice h.np n.next.length h.nc, .slice h.lp n.legal.length h.lc, .slice h.op n.goals.length h.oc, .slice h.sp n.sees.length h.sc, .int .i64 n.last, .bool n.hid], vl, vs, vi, .int .i64 r] w fun e w' => e = .returned (.tuple #[.slice none 0 0, .int .i64 (ouE groundB st ip n r)]) ∧ Below w.heap.size w w' := by
  obtain ⟨W1, hW1⟩ : ∃ z, z = w.alloc (.cells #[.slice h.gp n.gates.length h.gc, .slice h.rp n.roles.length h.rc, .slice h.bp n.bases.length h.bc, .slice h.ip n.inputs.length h.ic, .slice h.ap n.initial.length h.ac, .slice h.np n.next.length h.nc, .slice h.lp n.legal.length h.lc, .slice h.op n.goals.length h.oc, .slice h.sp n.sees.length h.sc, .int .i64 n.last, .bool n.hid] 28) := ⟨_, rfl⟩
  have K1 : Hid (Below w.heap.size w W1) := Lib.hid (by rw [hW1]; exact below_alloc _ _)
  have H1 : Hid (Has W1 w.heap.size (netC n h)) := Lib.hid (by rw [hW1]; exact Has.new _ _ _)
  have hzz := K1.out.size
  have KW := Lib.hid (fun w' (q : Below W1.heap.size W1 w') => show Below w.heap.size w w' from K1.out.trans (q.mono hzz))
  have NK := Lib.hid (fun w' (q : Below W1.heap.size W1 w') => k.deep (KW.out w' q) hB)
  have HQ := Lib.hid (fun w' (q : Below W1.heap.size W1 w') => hasN (H1.out.step0 q))
  obtain ⟨W2, hW2⟩ : ∃ z, z = W1.alloc (.cells #[.int .i64 r] 3) := ⟨_, rfl⟩
  have K2 : Hid (Below W1.heap.size W1 W2) := Lib.hid (by rw [hW2]; exact below_alloc _ _)
  have hz1 : W1.heap.size = w.heap.size + 1 := by rw [hW1]; simp
  have H2 : Hid (Has W2 (w.heap.size + 1) #[.int .i64 r]) := Lib.hid (by rw [hW2, ← hz1]; exact Has.new _ _ _)
  have KK := KW.out W2 K2.out
  have hz2 := K2.out.size
  have C1 := Lib.hid (values_any n h st ip B W2 vs vi (Nat.le_trans hB KK.size) (NK.out W2 K2.out) hz (hs.keep fun b o (hb : b < B) => KK.cell (p := ⟨b, o, none⟩) (Nat.lt_of_lt_of_le hb hB)) (hi.keep fun b o (hb : b < B) => KK.cell (p := ⟨b, o, none⟩) (Nat.lt_of_lt_of_le hb hB)))
  have E1 : Hid (evE groundB st ip n ≠ 0 → ouE groundB st ip n r = evE groundB st ip n) := Lib.hid ou_ev
  have E2 : Hid (evE groundB st ip n = 0 → ouE groundB st ip n r = 8 ∧ inB r n.roles.length = false) := Lib.hid (fun e => by
    by_cases e2 : inB r n.roles.length = true
    · exact absurd (ou_ok e e2) hbad
    · have e3 : inB r n.roles.length = false := by simpa using e2
      exact ⟨ou_role e e3, e3⟩)
  obtain ⟨psl, csl, rfl⟩ := hs.form
  obtain ⟨pil, cil, rfl⟩ := hi.form
  clear k hz hs hi hbad KK
  obtain ⟨q1, q2, q3, q4, q5, q6, q7, q8, q9, q10, q11⟩ := HQ.out W1 (Below.refl _ _)
  generalize ouE groundB st ip n r = P at *
  generalize evE groundB st ip n = er at *
  generalize evV groundB st ip n = S at *
  go_enter Tryz.func42, Tryz.ntmps42
  go_upto_region 1 with fail
  rw [← hW1, ← hW2]
  clear hW1 hW2 q1 q2 q3 q4 q5 q6 q7 q8 q9 q10 q11
  obtain ⟨q1, q2, q3, q4, q5, q6, q7, q8, q9, q10, q11⟩ := HQ.out W2 K2.out
  go_wp2_with fail
  refine C1.out.mono ?_
  rintro e w4 ⟨v4, rfl, hv4, g4⟩
  have D4 := Lib.hid (next0 K2.out g4)
  have J4 := Lib.hid g4
  obtain ⟨p4, c4, rfl⟩ := hv4.form
  obtain ⟨W5, hW5⟩ : ∃ z, z = w4.alloc (.cells #[.slice p4 S.length c4] 60) := ⟨_, rfl⟩
  have J5 : Hid (Below w4.heap.size w4 W5) := Lib.hid (by rw [hW5]; exact below_alloc _ _)
  have D5 := Lib.hid (next0 D4.out J5.out)
  have DD5 := Lib.hid (KW.out _ D5.out)
  have x0 := ((H2.out.step0 J4.out).step0 J5.out).cell 0
  clear g4 C1 hv4 hz1 q1 q2 q3 q4 q5 q6 q7 q8 q9 q10 q11
  obtain ⟨q1, q2, q3, q4, q5, q6, q7, q8, q9, q10, q11⟩ := HQ.out W5 D5.out
  go_upto_region 2 with fail
  rw [← hW5]
  clear hW5
  by_cases hc : er = 0
  rotate_left
  · have e0 := Lib.hid (E1.out hc)
    have i1 : (er != 0) = true := by simp [hc]
    clear E2 E1 hc
    go_wp2_with fail
    refine bodyPost_ret (v := .tuple #[.slice none 0 0, .int .i64 er]) (by simp [results, Tryz.results42, go_sem]) rfl ?_
    exact ⟨by rw [e0.out], DD5.out⟩
  have i1 : (er != 0) = false := by simp [hc]
  have EE := Lib.hid (E2.out hc)
  have e3 := EE.out.2
  unfold inB at e3
  clear E1 E2 hc
  by_cases r0 : r < 0
  · clear e3
    go_wp2_with fail
    refine bodyPost_ret (v := .tuple #[.slice none 0 0, .int .i64 8]) (by simp [results, Tryz.results42, go_sem]) rfl ?_
    exact ⟨by rw [EE.out.1], DD5.out⟩
  have r1 : (n.roles.length : Int) ≤ r := by
    rw [decide_eq_true (by omega), Bool.true_and, decide_eq_false_iff_not] at e3
    omega
  clear e3
  generalize n.roles.length = nr at *
  go_wp2_with fail
  refine bodyPost_ret (v := .tuple #[.slice none 0 0, .int .i64 8]) (by simp [results, Tryz.results42, go_sem]) rfl ?_
  exact ⟨by rw [EE.out.1], DD5.out⟩
set_option maxRecDepth 100000 in
set_option maxHeartbeats 3200000 in
theorem goals_bad (n : Nt) (h : Nh) (st : List Int) (r : Int) (B : Nat) (w : World) (vs : Value) (hB : B ≤ w.heap.size) (k : NetIn (· < B) w n h) (hz : SzN n) (hs : RowE KN (· < B) w st vs) (hbad : ouE groundB st [] n r ≠ 0) :
    Calls Tryz.prog 13 #[.agg #[.slice h.gp n.gates.length h.gc, .slice h.rp n.roles.length h.rc, .slice h.bp n.bases.length h.bc, .slice h.ip n.inputs.length h.ic, .slice h.ap n.initial.length h.ac, .slice h.np n.next.length h.nc, .slice h.lp n.legal.length h.lc, .slice h.op n.goals.length h.oc, .slice h.sp n.sees.length h.sc, .int .i64 n.last, .bool n.hid], vs, .int .i64 r] w fun e w' => e = .returned (.tuple #[.slice none 0 0, .int .i64 (ouE groundB st [] n r)]) ∧ Below w.heap.size w w' := by
  obtain ⟨W1, hW1⟩ : ∃ z, z = w.alloc (.cells #[.slice h.gp n.gates.length h.gc, .slice h.rp n.roles.length h.rc, .slice h.bp n.bases.length h.bc, .slice h.ip n.inputs.length h.ic, .slice h.ap n.initial.length h.ac, .slice h.np n.next.length h.nc, .slice h.lp n.legal.length h.lc, .slice h.op n.goals.length h.oc, .slice h.sp n.sees.length h.sc, .int .i64 n.last, .bool n.hid] 28) := ⟨_, rfl⟩
  have K1 : Hid (Below w.heap.size w W1) := Lib.hid (by rw [hW1]; exact below_alloc _ _)
  have H1 : Hid (Has W1 w.heap.size (netC n h)) := Lib.hid (by rw [hW1]; exact Has.new _ _ _)
  have hzz := K1.out.size
  have KW := Lib.hid (fun w' (q : Below W1.heap.size W1 w') => show Below w.heap.size w w' from K1.out.trans (q.mono hzz))
  have NK := Lib.hid (fun w' (q : Below W1.heap.size W1 w') => k.deep (KW.out w' q) hB)
  have HQ := Lib.hid (fun w' (q : Below W1.heap.size W1 w') => hasN (H1.out.step0 q))
  have C1 := Lib.hid (outputs_bad n h st [] r B W1 (.slice h.op n.goals.length h.oc) vs (.slice none 0 0) (Nat.le_trans hB hzz) (NK.out W1 (Below.refl _ _)) hz (hs.keep fun b o (hb : b < B) => K1.out.cell (p := ⟨b, o, none⟩) (Nat.lt_of_lt_of_le hb hB)) (RowE.nil _ _) hbad)
  obtain ⟨psl, csl, rfl⟩ := hs.form
  clear k hz hs hbad
  obtain ⟨q1, q2, q3, q4, q5, q6, q7, q8, q9, q10, q11⟩ := HQ.out W1 (Below.refl _ _)
  generalize ouE groundB st [] n r = P at *
  go_enter Tryz.func13, Tryz.ntmps13
  go_upto_region 1 with fail
  rw [← hW1]
  clear hW1
  go_wp2_with fail
  refine C1.out.mono ?_
  rintro e w4 ⟨rfl, g4⟩
  have DD4 := Lib.hid (KW.out _ (next0 (Below.refl W1.heap.size W1) g4))
  clear g4 C1 q1 q2 q3 q4 q5 q6 q7 q8 q9 q10 q11
  go_wp2_with fail
  go_loopw [10, 24] (fun g i wr => g = .slice none 0 0 ∧ i = .int .i64 0 ∧ w4 = wr) (fun _ _ _ => 0)
  case atStart => exact ⟨rfl, rfl, rfl⟩
  case round =>
    obtain ⟨rfl, rfl, rfl⟩ := hrel
    go_wp2_with fail
    refine bodyPost_ret (v := .tuple #[.slice none 0 0, .int .i64 P]) (by simp [results, Tryz.results13, go_sem]) rfl ?_
    exact ⟨rfl, DD4.out⟩
end NetGo
end Go.Proofs.YtkfeliogglnngaaGreat
