/- The walk of TernaryKnown. Condition: the tables are as laid. Made by gnT9.py. -/
import Derived.Test.YtedilgnnfmplgaaDoorNetT8
import Derived.Test.YtedilgnnfmplgaaDoorNetTk
namespace Go.Proofs.YtedilgnnfmplgaaDoor
open Go Go.RowKit
namespace NetSu9
open Kit TermM TermI NetM NetN NetK NetA NetC NetI NetTm NetT5
/-- Rows that lie still in every later world. -/
def StN (L : List Int) (w : World) (v : Value) : Prop := ∀ z, Below w.heap.size w z → RowE KN (· < z.heap.size) z L v
theorem StN.of {B : Nat} {L : List Int} {w : World} {v : Value} (h : RowE KN (fun b => B ≤ b ∧ b < w.heap.size) w L v) : StN L w v := fun _ q => row_on h q
theorem StN.step {L : List Int} {w w' : World} {v : Value} (h : StN L w v) (q : Below w.heap.size w w') : StN L w' v := fun z k => h z (q.trans (k.mono q.size))
theorem StN.form {L : List Int} {w : World} {v : Value} (h : StN L w v) : ∃ p c, v = .slice p L.length c := (h w (Below.refl _ _)).form
theorem undrew {w w' : World} (h : Below w.drew.heap.size w.drew w') : Below w.heap.size w w' := ((Below.refl _ _).drew).trans h
end NetSu9
namespace NetT9
open Kit TermM TermI TermH NetM NetN NetK NetO NetA NetC NetI NetMk NetOk NetEv NetS NetTn NetTt NetTm NetTq NetSa NetT5 NetSl NetSz NetSu9
set_option maxRecDepth 100000 in
set_option maxHeartbeats 12800000 in
theorem law (n : Nt) (h : Nh) (bs is : List Int) (w : World) (vs vi : Value) (k : NetIn (· < w.heap.size) w n h) (hs : RowE KN (· < w.heap.size) w bs vs) (hi : RowE KN (· < w.heap.size) w is vi) (ht : Tb w) :
    Calls Tryd.prog 5 #[.agg #[.slice h.gp n.gates.length h.gc, .slice h.rp n.roles.length h.rc, .slice h.bp n.bases.length h.bc, .slice h.ip n.inputs.length h.ic, .slice h.ap n.initial.length h.ac, .slice h.np n.next.length h.nc, .slice h.lp n.legal.length h.lc, .slice h.op n.goals.length h.oc, .slice h.sp n.sees.length h.sc, .int .i64 n.last, .bool n.hid], vs, vi] w fun e w' => e = .returned (.bool true) ∧ Below w.heap.size w w' := by
  obtain ⟨Wb, hWb⟩ : ∃ z, z = w.alloc (.cells #[.slice h.gp n.gates.length h.gc, .slice h.rp n.roles.length h.rc, .slice h.bp n.bases.length h.bc, .slice h.ip n.inputs.length h.ic, .slice h.ap n.initial.length h.ac, .slice h.np n.next.length h.nc, .slice h.lp n.legal.length h.lc, .slice h.op n.goals.length h.oc, .slice h.sp n.sees.length h.sc, .int .i64 n.last, .bool n.hid] 32) := ⟨_, rfl⟩
  have BB : Hid (Below w.heap.size w Wb) := Lib.hid (by rw [hWb]; exact below_alloc _ _)
  have H1 : Hid (Has Wb w.heap.size (netC n h)) := Lib.hid (by rw [hWb]; exact Has.new _ _ _)
  have hzB := BB.out.size
  have KW := Lib.hid (fun w' (q : Below Wb.heap.size Wb w') => show Below w.heap.size w w' from BB.out.trans (q.mono hzB))
  have NK := Lib.hid (fun w' (q : Below Wb.heap.size Wb w') => k.deep (KW.out w' q) (Nat.le_refl _))
  have HQ := Lib.hid (fun w' (q : Below Wb.heap.size Wb w') => hasN (H1.out.step0 q))
  have RS := Lib.hid (fun w' (q : Below Wb.heap.size Wb w') => hs.keep (w' := w') fun b o (hb : b < w.heap.size) => (KW.out w' q).cell (p := ⟨b, o, none⟩) hb)
  have RI := Lib.hid (fun w' (q : Below Wb.heap.size Wb w') => hi.keep (w' := w') fun b o (hb : b < w.heap.size) => (KW.out w' q).cell (p := ⟨b, o, none⟩) hb)
  have TB := Lib.hid (fun w' (q : Below Wb.heap.size Wb w') => ht.below (KW.out w' q))
  have SM := Lib.hid (fun w' (q : Below Wb.heap.size Wb w') => NetSl.law_small n h w.heap.size w' (KW.out w' q).size (NK.out w' q))
  have CV := Lib.hid (fun (hz : SzN n) w' (q : Below Wb.heap.size Wb w') => NetTk.known_any n h bs w.heap.size w' vs (KW.out w' q).size (NK.out w' q) hz (RS.out w' q))
  have CR := Lib.hid (fun (hz : SzN n) w' (q : Below Wb.heap.size Wb w') => NetTk.rknown_any n h bs w.heap.size w' vs (KW.out w' q).size (NK.out w' q) hz (RS.out w' q))
  have RSL := Lib.hid (fun w' (q : Below Wb.heap.size Wb w') b (hb : b < w.heap.size) => Nat.lt_of_lt_of_le hb (KW.out w' q).size)
  have P1 := Lib.hid (fun w' (q : Below Wb.heap.size Wb w') => refines_any bs is _ _ w' vs vi (RS.out w' q) (RI.out w' q) (RSL.out w' q) (RSL.out w' q))
  have P2 := Lib.hid (fun w' (q : Below Wb.heap.size Wb w') => rrefines_any bs is _ _ w' vs vi (RS.out w' q) (RI.out w' q) (RSL.out w' q) (RSL.out w' q))
  have P3 := Lib.hid (fun w' (q : Below Wb.heap.size Wb w') => refines_any is bs _ _ w' vi vs (RI.out w' q) (RS.out w' q) (RSL.out w' q) (RSL.out w' q))
  have P4 := Lib.hid (fun w' (q : Below Wb.heap.size Wb w') => rrefines_any is bs _ _ w' vi vs (RI.out w' q) (RS.out w' q) (RSL.out w' q) (RSL.out w' q))
  obtain ⟨psl, csl, rfl⟩ := hs.form
  obtain ⟨pil, cil, rfl⟩ := hi.form
  have D0 : Hid (Below Wb.heap.size Wb Wb) := Lib.hid (Below.refl _ _)
  have CL : Hid (∀ w', Below Wb.heap.size Wb w' → w'.cell? ⟨w.heap.size, 0, none⟩ = some (.slice h.gp n.gates.length h.gc) ∧ w'.cell? ⟨w.heap.size, 1, none⟩ = some (.slice h.rp n.roles.length h.rc) ∧ w'.cell? ⟨w.heap.size, 2, none⟩ = some (.slice h.bp n.bases.length h.bc) ∧ w'.cell? ⟨w.heap.size, 3, none⟩ = some (.slice h.ip n.inputs.length h.ic) ∧ w'.cell? ⟨w.heap.size, 4, none⟩ = some (.slice h.ap n.initial.length h.ac) ∧ w'.cell? ⟨w.heap.size, 5, none⟩ = some (.slice h.np n.next.length h.nc) ∧ w'.cell? ⟨w.heap.size, 6, none⟩ = some (.slice h.lp n.legal.length h.lc) ∧ w'.cell? ⟨w.heap.size, 7, none⟩ = some (.slice h.op n.goals.length h.oc) ∧ w'.cell? ⟨w.heap.size, 8, none⟩ = some (.slice h.sp n.sees.length h.sc) ∧ w'.cell? ⟨w.heap.size, 9, none⟩ = some (.int .i64 n.last) ∧ w'.cell? ⟨w.heap.size, 10, none⟩ = some (.bool n.hid)) := Lib.hid (fun w' q => HQ.out w' q)
  clear k hs hi ht RS RI NK RSL
  generalize knN groundB bs n = S at *
  generalize refN bs is = x1 at *
  generalize refN is bs = x2 at *
  generalize bs.length = lb at *
  generalize is.length = li at *
  obtain ⟨z, hz⟩ : ∃ z, IntKind.i64.wrap ((lb : Int) + (li : Int)) = z := ⟨_, rfl⟩
  go_enter Tryd.func5, Tryd.ntmps5
  go_upto_region 1 with fail
  rw [← hWb]
  clear hWb
  have C1 := Lib.hid (SM.out Wb D0.out)
  obtain ⟨q1, q2, q3, q4, q5, q6, q7, q8, q9, q10, q11⟩ := HQ.out Wb D0.out
  go_wp2_with fail
  refine C1.out.mono ?_
  rintro e w1 ⟨b1, rfl, s1, g1⟩
  have J1 : Hid (Below Wb.heap.size Wb w1) := Lib.hid g1
  have D1 : Hid (Below Wb.heap.size Wb w1) := Lib.hid (next0 D0.out g1)
  have S1 := Lib.hid s1
  clear s1
  clear g1 C1 q1 q2 q3 q4 q5 q6 q7 q8 q9 q10 q11
  cases b1
  · have C2 := Lib.hid (alive_any w1 (TB.out w1 D1.out))
    go_wp2_with fail
    refine C2.out.mono ?_
    rintro e w2 ⟨rfl, g2⟩
    have J2 : Hid (Below w1.heap.size w1 w2) := Lib.hid g2
    have D2 : Hid (Below Wb.heap.size Wb w2) := Lib.hid (next0 D1.out g2)
    clear g2 C2
    have DF := Lib.hid (KW.out _ D2.out)
    go_wp2_with fail
    go_ret
    exact ⟨rfl, DF.out⟩
  have ZN := Lib.hid (sz_of (S1.out rfl))
  clear S1
  by_cases hb : z > 60
  · have C2 := Lib.hid (alive_any w1 (TB.out w1 D1.out))
    go_wp2_with fail
    refine C2.out.mono ?_
    rintro e w2 ⟨rfl, g2⟩
    have J2 : Hid (Below w1.heap.size w1 w2) := Lib.hid g2
    have D2 : Hid (Below Wb.heap.size Wb w2) := Lib.hid (next0 D1.out g2)
    clear g2 C2
    have DF := Lib.hid (KW.out _ D2.out)
    go_wp2_with fail
    go_ret
    exact ⟨rfl, DF.out⟩
  have CVz := Lib.hid (CV.out ZN.out)
  have CRz := Lib.hid (CR.out ZN.out)
  have HC := Lib.hid (fun w' (q : Below w1.heap.size w1 w') => CL.out w' (next0 D1.out q))
  have BW := Lib.hid (fun w' (q : Below w1.heap.size w1 w') => show Below Wb.heap.size Wb w' from next0 D1.out q)
  clear CV CR SM HQ CL
  go_upto_region 3 with fail
  go_cut [6] (fun s wx => s = .bool true ∧ Hid (Below w1.heap.size w1 wx))
  case first =>
    have hq0 : Hid (Below w1.heap.size w1 w1.drew) := Lib.hid (Below.refl _ _).drew
    obtain ⟨y1, y2, y3, y4, y5, y6, y7, y8, y9, y10, y11⟩ := HC.out _ hq0.out
    cases x1 <;> cases x2
    all_goals
      go_region_held3 (fun w' => w'.cell? ⟨w.heap.size, 0, none⟩ = some (.slice h.gp n.gates.length h.gc) ∧ w'.cell? ⟨w.heap.size, 1, none⟩ = some (.slice h.rp n.roles.length h.rc) ∧ w'.cell? ⟨w.heap.size, 2, none⟩ = some (.slice h.bp n.bases.length h.bc) ∧ w'.cell? ⟨w.heap.size, 3, none⟩ = some (.slice h.ip n.inputs.length h.ic) ∧ w'.cell? ⟨w.heap.size, 4, none⟩ = some (.slice h.ap n.initial.length h.ac) ∧ w'.cell? ⟨w.heap.size, 5, none⟩ = some (.slice h.np n.next.length h.nc) ∧ w'.cell? ⟨w.heap.size, 6, none⟩ = some (.slice h.lp n.legal.length h.lc) ∧ w'.cell? ⟨w.heap.size, 7, none⟩ = some (.slice h.op n.goals.length h.oc) ∧ w'.cell? ⟨w.heap.size, 8, none⟩ = some (.slice h.sp n.sees.length h.sc) ∧ w'.cell? ⟨w.heap.size, 9, none⟩ = some (.int .i64 n.last) ∧ w'.cell? ⟨w.heap.size, 10, none⟩ = some (.bool n.hid))
        (first | (with_reducible assumption) | (with_reducible exact ⟨‹_›, ‹_›, ‹_›, ‹_›, ‹_›, ‹_›, ‹_›, ‹_›, ‹_›, ‹_›, ‹_›⟩) | (with_reducible refine HC.out _ ?_; repeat (first | (with_reducible exact Hid.out (by assumption)) | (with_reducible exact Below.refl _ _) | (with_reducible refine Below.drew ?_))))
        (first
          | (go_at_call 9; (try go_split_ands); (with_reducible refine (alive_any _ (TB.out _ (BW.out _ (by repeat (first | (with_reducible exact Hid.out (by assumption)) | (with_reducible exact Below.refl _ _) | (with_reducible refine Below.drew ?_)))))).mono ?_); rintro e wo ⟨rfl, qo⟩; (have QO : Hid (Below w1.heap.size w1 wo) := Lib.hid (by (refine next0 ?_ qo; repeat (first | (with_reducible exact Hid.out (by assumption)) | (with_reducible exact Below.refl _ _) | (with_reducible refine Below.drew ?_))))); clear qo; obtain ⟨y1, y2, y3, y4, y5, y6, y7, y8, y9, y10, y11⟩ := HC.out _ QO.out)
          | (go_at_call 20; (try go_split_ands); (with_reducible refine (CVz.out _ (BW.out _ (by repeat (first | (with_reducible exact Hid.out (by assumption)) | (with_reducible exact Below.refl _ _) | (with_reducible refine Below.drew ?_))))).mono ?_); rintro e wa ⟨ua, rfl, ra, qa⟩; have RA := Lib.hid (StN.of ra); obtain ⟨pa, ca, rfl⟩ := ra.form; have QA := Lib.hid qa; (have QG : Hid (Below w1.heap.size w1 wa) := Lib.hid (by (refine next0 ?_ qa; repeat (first | (with_reducible exact Hid.out (by assumption)) | (with_reducible exact Below.refl _ _) | (with_reducible refine Below.drew ?_))))); clear ra qa; obtain ⟨y1, y2, y3, y4, y5, y6, y7, y8, y9, y10, y11⟩ := HC.out _ QG.out)
          | (go_at_call 21; (try go_split_ands); (with_reducible refine (CRz.out _ (BW.out _ (by repeat (first | (with_reducible exact Hid.out (by assumption)) | (with_reducible exact Below.refl _ _) | (with_reducible refine Below.drew ?_))))).mono ?_); rintro e wb ⟨ub, rfl, rb, qb⟩; have RB := Lib.hid (StN.of rb); obtain ⟨pb, cb, rfl⟩ := rb.form; have QB := Lib.hid qb; (have QH : Hid (Below w1.heap.size w1 wb) := Lib.hid (by (refine next0 ?_ qb; repeat (first | (with_reducible exact Hid.out (by assumption)) | (with_reducible exact Below.refl _ _) | (with_reducible refine Below.drew ?_))))); clear rb qb; obtain ⟨y1, y2, y3, y4, y5, y6, y7, y8, y9, y10, y11⟩ := HC.out _ QH.out)
          | (go_at_call 19; (try go_split_ands); refine (ints_eq S _ _ _ (RA.out _ (by (repeat (with_reducible refine Below.drew ?_)); first | (with_reducible exact Below.refl _ _) | (first | (exact QB.out) | (refine undrew ?_; (first | (exact QB.out) | (refine undrew ?_; (first | (exact QB.out) | (refine undrew ?_; (first | (exact QB.out) | (refine undrew ?_; (first | (exact QB.out) | (refine undrew ?_; (first | (exact QB.out) | (refine undrew ?_; (first | (exact QB.out) | (refine undrew ?_; (first | (exact QB.out) | (refine undrew ?_; (first | (exact QB.out) | (refine undrew ?_; (first | (exact QB.out) | (refine undrew ?_; (first | (exact QB.out) | (refine undrew ?_; (first | (exact QB.out) | (refine undrew ?_; (first | (exact QB.out) | (refine undrew ?_; (first | (exact QB.out) | (refine undrew ?_; (first | (exact QB.out)))))))))))))))))))))))))))))))) (RB.out _ (by (repeat (with_reducible refine Below.drew ?_)); first | (with_reducible exact Below.refl _ _) | (first | (exact QA.out) | (refine undrew ?_; (first | (exact QA.out) | (refine undrew ?_; (first | (exact QA.out) | (refine undrew ?_; (first | (exact QA.out) | (refine undrew ?_; (first | (exact QA.out) | (refine undrew ?_; (first | (exact QA.out) | (refine undrew ?_; (first | (exact QA.out) | (refine undrew ?_; (first | (exact QA.out) | (refine undrew ?_; (first | (exact QA.out) | (refine undrew ?_; (first | (exact QA.out) | (refine undrew ?_; (first | (exact QA.out) | (refine undrew ?_; (first | (exact QA.out) | (refine undrew ?_; (first | (exact QA.out) | (refine undrew ?_; (first | (exact QA.out) | (refine undrew ?_; (first | (exact QA.out))))))))))))))))))))))))))))))))).mono ?_; rintro e wi ⟨rfl, qi⟩; (have QI : Hid (Below w1.heap.size w1 wi) := Lib.hid (by (refine next0 ?_ qi; repeat (first | (with_reducible exact Hid.out (by assumption)) | (with_reducible exact Below.refl _ _) | (with_reducible refine Below.drew ?_))))); clear qi; obtain ⟨y1, y2, y3, y4, y5, y6, y7, y8, y9, y10, y11⟩ := HC.out _ QI.out)
          | (go_at_call 22; (try go_split_ands); (first | (with_reducible refine (P1.out _ (BW.out _ (by repeat (first | (with_reducible exact Hid.out (by assumption)) | (with_reducible exact Below.refl _ _) | (with_reducible refine Below.drew ?_))))).mono ?_) | (with_reducible refine (P3.out _ (BW.out _ (by repeat (first | (with_reducible exact Hid.out (by assumption)) | (with_reducible exact Below.refl _ _) | (with_reducible refine Below.drew ?_))))).mono ?_)); rintro e wp ⟨rfl, qp⟩; (have QP : Hid (Below w1.heap.size w1 wp) := Lib.hid (by (refine next0 ?_ qp; repeat (first | (with_reducible exact Hid.out (by assumption)) | (with_reducible exact Below.refl _ _) | (with_reducible refine Below.drew ?_))))); clear qp; obtain ⟨y1, y2, y3, y4, y5, y6, y7, y8, y9, y10, y11⟩ := HC.out _ QP.out)
          | (go_at_call 23; (try go_split_ands); (first | (with_reducible refine (P2.out _ (BW.out _ (by repeat (first | (with_reducible exact Hid.out (by assumption)) | (with_reducible exact Below.refl _ _) | (with_reducible refine Below.drew ?_))))).mono ?_) | (with_reducible refine (P4.out _ (BW.out _ (by repeat (first | (with_reducible exact Hid.out (by assumption)) | (with_reducible exact Below.refl _ _) | (with_reducible refine Below.drew ?_))))).mono ?_)); rintro e wr ⟨rfl, qr⟩; (have QR : Hid (Below w1.heap.size w1 wr) := Lib.hid (by (refine next0 ?_ qr; repeat (first | (with_reducible exact Hid.out (by assumption)) | (with_reducible exact Below.refl _ _) | (with_reducible refine Below.drew ?_))))); clear qr; obtain ⟨y1, y2, y3, y4, y5, y6, y7, y8, y9, y10, y11⟩ := HC.out _ QR.out))
      all_goals
        go_wp2_with fail
        go_meet
        refine ⟨rfl, ?_⟩
        exact Lib.hid (by repeat (first | (with_reducible exact Hid.out (by assumption)) | (with_reducible exact Below.refl _ _) | (with_reducible refine Below.drew ?_)))
  case rest =>
  generalize hwx : wc = wx at *
  clear hwx
  obtain ⟨rfl, hq⟩ := hcut
  have DF := Lib.hid (KW.out _ (next0 D1.out hq.out))
  go_wp2_with fail
  go_ret
  exact ⟨rfl, DF.out⟩
end NetT9
end Go.Proofs.YtedilgnnfmplgaaDoor
