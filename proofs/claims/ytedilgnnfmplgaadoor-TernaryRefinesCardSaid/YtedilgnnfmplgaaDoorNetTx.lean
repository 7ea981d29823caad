/- The walk of TernaryExact. Condition: the tables are as laid. Made by gnTx.py. -/
import Derived.Test.YtedilgnnfmplgaaDoorNetT9
import Derived.Test.YtedilgnnfmplgaaDoorNetTh
import Derived.Test.YtedilgnnfmplgaaDoorNetVv
import Derived.Test.YtedilgnnfmplgaaDoorNetMo
import Derived.Test.YtedilgnnfmplgaaDoorNetPs
import Derived.BigQuiet
namespace Go.Proofs.YtedilgnnfmplgaaDoor
open Go Go.RowKit
namespace NetTx
open Kit TermM TermI TermH NetM NetN NetK NetA NetC NetI NetMk NetNu NetOk NetEv NetBo NetS NetTn NetTp NetTt NetTm NetTq NetTk NetTh NetSa NetT5 NetSl NetSz NetBp NetBt NetVv NetSu9
def StB (L : List Bool) (w : World) (v : Value) : Prop := ∀ z, Below w.heap.size w z → RowE KB (· < z.heap.size) z L v
theorem StB.of {B : Nat} {L : List Bool} {w : World} {v : Value} (h : RowE KB (fun b => B ≤ b ∧ b < w.heap.size) w L v) : StB L w v := fun _ q => row_on h q
theorem StB.step {L : List Bool} {w w' : World} {v : Value} (h : StB L w v) (q : Below w.heap.size w w') : StB L w' v := fun z k => h z (q.trans (k.mono q.size))
theorem knb {n : Nt} (h : chkN groundB n = 0) (st : List Int) : knN groundB st n = tsetL (List.replicate n.bases.length 0) 1 st := by
  unfold knN
  rw [if_neg (by simpa using h)]
theorem kn_len {n : Nt} (h : chkN groundB n = 0) (st : List Int) : (knN groundB st n).length = n.bases.length := by
  rw [knb h, tsetl_len]
  simp
theorem exact_all {n : Nt} (h : chkN groundB n = 0) (a b : Nat) : tvalsN (knN groundB (bitsL a n.bases.length) n) (markT b n.inputs.length) n = (valsN (bitsL a n.bases.length) (bitsL b n.inputs.length) n).map b2t := by
  refine exact_n (nok h) ?_ giv_set
  rw [knb h]
  exact giv_set
set_option maxRecDepth 100000 in
set_option maxHeartbeats 12800000 in
theorem law (n : Nt) (h : Nh) (a b : Nat) (w : World) (ha : a < 18446744073709551616) (hb : b < 18446744073709551616) (k : NetIn (· < w.heap.size) w n h) (ht : Tb w) :
    Calls Tryd.prog 6 #[.agg #[.slice h.gp n.gates.length h.gc, .slice h.rp n.roles.length h.rc, .slice h.bp n.bases.length h.bc, .slice h.ip n.inputs.length h.ic, .slice h.ap n.initial.length h.ac, .slice h.np n.next.length h.nc, .slice h.lp n.legal.length h.lc, .slice h.op n.goals.length h.oc, .slice h.sp n.sees.length h.sc, .int .i64 n.last, .bool n.hid], .agg #[.int .u64 (a : Int), .int .u64 (b : Int)]] w fun e w' => e = .returned (.bool true) ∧ Below w.heap.size w w' := by
  obtain ⟨W1, hW1⟩ : ∃ z, z = w.alloc (.cells #[.slice h.gp n.gates.length h.gc, .slice h.rp n.roles.length h.rc, .slice h.bp n.bases.length h.bc, .slice h.ip n.inputs.length h.ic, .slice h.ap n.initial.length h.ac, .slice h.np n.next.length h.nc, .slice h.lp n.legal.length h.lc, .slice h.op n.goals.length h.oc, .slice h.sp n.sees.length h.sc, .int .i64 n.last, .bool n.hid] 32) := ⟨_, rfl⟩
  obtain ⟨Wb, hWb⟩ : ∃ z, z = W1.alloc (.cells #[.int .u64 (a : Int), .int .u64 (b : Int)] 42) := ⟨_, rfl⟩
  have K1 : Hid (Below w.heap.size w W1) := Lib.hid (by rw [hW1]; exact below_alloc _ _)
  have K2 : Hid (Below W1.heap.size W1 Wb) := Lib.hid (by rw [hWb]; exact below_alloc _ _)
  have hz1 : W1.heap.size = w.heap.size + 1 := by rw [hW1]; simp
  have BB : Hid (Below w.heap.size w Wb) := Lib.hid (next0 K1.out K2.out)
  have H1 : Hid (Has Wb w.heap.size (netC n h)) := Lib.hid (by rw [hWb, hW1]; exact (Has.new _ _ _).alloc _)
  have H2 : Hid (Has Wb (w.heap.size + 1) #[.int .u64 (a : Int), .int .u64 (b : Int)]) := Lib.hid (by rw [hWb, ← hz1]; exact Has.new _ _ _)
  have hzB := BB.out.size
  have KW := Lib.hid (fun w' (q : Below Wb.heap.size Wb w') => show Below w.heap.size w w' from BB.out.trans (q.mono hzB))
  have NK := Lib.hid (fun w' (q : Below Wb.heap.size Wb w') => k.deep (KW.out w' q) (Nat.le_refl _))
  have NW := Lib.hid (fun w' (q : Below Wb.heap.size Wb w') => (NK.out w' q).wide (ok' := (· < w'.heap.size)) fun b hb => Nat.lt_of_lt_of_le hb (KW.out w' q).size)
  have HQ := Lib.hid (fun w' (q : Below Wb.heap.size Wb w') => hasN (H1.out.step0 q))
  have TB := Lib.hid (fun w' (q : Below Wb.heap.size Wb w') => ht.below (KW.out w' q))
  have SM := Lib.hid (fun w' (q : Below Wb.heap.size Wb w') => NetSl.law_small n h w.heap.size w' (KW.out w' q).size (NK.out w' q))
  have CR := Lib.hid (fun (hz : SzN n) w' (q : Below Wb.heap.size Wb w') => NetY.rcheck_any n h w.heap.size w' (KW.out w' q).size (NK.out w' q) hz.next hz.legal hz.goals hz.seen)
  have CVT0 := Lib.hid (fun (hz : SzN n) w' (q : Below Wb.heap.size Wb w') bs is vs vi hs hi => NetTv.values_any n h bs is w'.heap.size w' vs vi (Nat.le_refl _) (NW.out w' q) hz hs hi (TB.out w' q))
  have CL : Hid (∀ w', Below Wb.heap.size Wb w' → w'.cell? ⟨w.heap.size, 0, none⟩ = some (.slice h.gp n.gates.length h.gc) ∧ w'.cell? ⟨w.heap.size, 1, none⟩ = some (.slice h.rp n.roles.length h.rc) ∧ w'.cell? ⟨w.heap.size, 2, none⟩ = some (.slice h.bp n.bases.length h.bc) ∧ w'.cell? ⟨w.heap.size, 3, none⟩ = some (.slice h.ip n.inputs.length h.ic) ∧ w'.cell? ⟨w.heap.size, 4, none⟩ = some (.slice h.ap n.initial.length h.ac) ∧ w'.cell? ⟨w.heap.size, 5, none⟩ = some (.slice h.np n.next.length h.nc) ∧ w'.cell? ⟨w.heap.size, 6, none⟩ = some (.slice h.lp n.legal.length h.lc) ∧ w'.cell? ⟨w.heap.size, 7, none⟩ = some (.slice h.op n.goals.length h.oc) ∧ w'.cell? ⟨w.heap.size, 8, none⟩ = some (.slice h.sp n.sees.length h.sc) ∧ w'.cell? ⟨w.heap.size, 9, none⟩ = some (.int .i64 n.last) ∧ w'.cell? ⟨w.heap.size, 10, none⟩ = some (.bool n.hid) ∧ w'.cell? ⟨w.heap.size + 1, 0, none⟩ = some (.int .u64 (a : Int)) ∧ w'.cell? ⟨w.heap.size + 1, 1, none⟩ = some (.int .u64 (b : Int))) := Lib.hid (fun w' q => by
    obtain ⟨q1, q2, q3, q4, q5, q6, q7, q8, q9, q10, q11⟩ := hasN (H1.out.step0 q)
    exact ⟨q1, q2, q3, q4, q5, q6, q7, q8, q9, q10, q11, (H2.out.step0 q).cell 0, (H2.out.step0 q).cell 1⟩)
  have CKN0 := Lib.hid (fun (hz : SzN n) w' (q : Below Wb.heap.size Wb w') st vs hs => NetTk.known_any n h st w'.heap.size w' vs (Nat.le_refl _) (NW.out w' q) hz hs)
  have CVE0 := Lib.hid (fun (hz : SzN n) w' (q : Below Wb.heap.size Wb w') st ip vs vi hs hi => NetVv.values_any n h st ip w'.heap.size w' vs vi (Nat.le_refl _) (NW.out w' q) hz hs hi)
  have BA := Lib.hid (fun m w' => bits_any a m ha w')
  have BI := Lib.hid (fun m w' => bits_any b m hb w')
  have MI := Lib.hid (fun m (hm : m ≤ 1000000) w' => marks_any b m hb hm w')
  have D0 : Hid (Below Wb.heap.size Wb Wb) := Lib.hid (Below.refl _ _)
  have HZ1 := Lib.hid hz1
  clear k NK NW K1 K2 ha hb hz1 ht
  have OKN : Hid (chkN groundB n = 0 → NOk n) := Lib.hid nok
  have EVB : Hid (chkN groundB n = 0 → evE groundB (bitsL a n.bases.length) (bitsL b n.inputs.length) n = 0) := Lib.hid (fun e => NetMo.ev_bits e a b)
  have TVB : Hid (chkN groundB n = 0 → tvE groundB (knN groundB (bitsL a n.bases.length) n) (markT b n.inputs.length) n = 0) := Lib.hid (fun e => te_ok e (kn_len e _) (markt_len _ _))
  have EXA : Hid (chkN groundB n = 0 → tvalsN (knN groundB (bitsL a n.bases.length) n) (markT b n.inputs.length) n = (valsN (bitsL a n.bases.length) (bitsL b n.inputs.length) n).map b2t) := Lib.hid (fun e => exact_all e a b)
  generalize hchk : chkN groundB n = ck at *
  clear hchk
  go_enter Tryd.func6, Tryd.ntmps6
  go_upto_region 1 with fail
  have e1 := HZ1.out
  rw [← hW1, ← hWb]
  clear hWb hW1 e1
  have C1 := Lib.hid (SM.out Wb D0.out)
  obtain ⟨q1, q2, q3, q4, q5, q6, q7, q8, q9, q10, q11⟩ := HQ.out Wb D0.out
  go_wp2_with fail
  refine C1.out.mono ?_
  rintro e w1 ⟨b1, rfl, s1, g1⟩
  have J1 : Hid (Below Wb.heap.size Wb w1) := Lib.hid g1
  have D1 : Hid (Below Wb.heap.size Wb w1) := Lib.hid (next0 D0.out g1)
  have S1 := Lib.hid s1
  clear s1
  clear g1 C1 q1 q2 q3 q4 q5 q6 q7 q8 q9 q10 q11
  cases b1
  · have C2 := Lib.hid (alive_any w1 (TB.out w1 D1.out))
    go_wp2_with fail
    refine C2.out.mono ?_
    rintro e w2 ⟨rfl, g2⟩
    have J2 : Hid (Below w1.heap.size w1 w2) := Lib.hid g2
    have D2 : Hid (Below Wb.heap.size Wb w2) := Lib.hid (next0 D1.out g2)
    clear g2 C2
    have DF := Lib.hid (KW.out _ D2.out)
    go_wp2_with fail
    go_ret
    exact ⟨rfl, DF.out⟩
  have ZN := Lib.hid (sz_of (S1.out rfl))
  clear S1
  have C2 := Lib.hid (CR.out ZN.out w1 D1.out)
  obtain ⟨q1, q2, q3, q4, q5, q6, q7, q8, q9, q10, q11⟩ := HQ.out w1 D1.out
  go_wp2_with fail
  refine C2.out.mono ?_
  rintro e w2 ⟨rfl, g2⟩
  have J2 : Hid (Below w1.heap.size w1 w2) := Lib.hid g2
  have D2 : Hid (Below Wb.heap.size Wb w2) := Lib.hid (next0 D1.out g2)
  clear g2 C2 q1 q2 q3 q4 q5 q6 q7 q8 q9 q10 q11
  by_cases hc : ck = 0
  rotate_left
  · have i1 : (ck != 0) = true := by simp [hc]
    clear hc
    have C3 := Lib.hid (alive_any w2 (TB.out w2 D2.out))
    go_wp2_with fail
    refine C3.out.mono ?_
    rintro e w3 ⟨rfl, g3⟩
    have J3 : Hid (Below w2.heap.size w2 w3) := Lib.hid g3
    have D3 : Hid (Below Wb.heap.size Wb w3) := Lib.hid (next0 D2.out g3)
    clear g3 C3
    have DF := Lib.hid (KW.out _ D3.out)
    go_wp2_with fail
    go_ret
    exact ⟨rfl, DF.out⟩
  have i1 : (ck != 0) = false := by simp [hc]
  have OK := Lib.hid (OKN.out hc)
  have EV := Lib.hid (EVB.out hc)
  have TV := Lib.hid (TVB.out hc)
  have EX := Lib.hid (EXA.out hc)
  have hnb : n.bases.length ≤ 1000000 := by have := OK.out.next; have := ZN.out.next; omega
  have hni : n.inputs.length ≤ 1000000 := by have := OK.out.legal; have := ZN.out.legal; omega
  have TL := Lib.hid (tvalsn_len (knN groundB (bitsL a n.bases.length) n) (markT b n.inputs.length) n)
  have VL := Lib.hid (valsn_len (bitsL a n.bases.length) (bitsL b n.inputs.length) n)
  have CVT := Lib.hid (fun w' (q : Below Wb.heap.size Wb w') vs vi hs hi => show Calls Tryd.prog 17 #[.agg #[.slice h.gp n.gates.length h.gc, .slice h.rp n.roles.length h.rc, .slice h.bp n.bases.length h.bc, .slice h.ip n.inputs.length h.ic, .slice h.ap n.initial.length h.ac, .slice h.np n.next.length h.nc, .slice h.lp n.legal.length h.lc, .slice h.op n.goals.length h.oc, .slice h.sp n.sees.length h.sc, .int .i64 n.last, .bool n.hid], vs, vi] w' (IntE ((valsN (bitsL a n.bases.length) (bitsL b n.inputs.length) n).map b2t) 0 w') from by
    have := CVT0.out ZN.out w' q (knN groundB (bitsL a n.bases.length) n) (markT b n.inputs.length) vs vi hs hi
    rw [tvv_ok TV.out, TV.out, EX.out] at this
    exact this)
  have CVE := Lib.hid (fun w' (q : Below Wb.heap.size Wb w') vs vi hs hi => show Calls Tryd.prog 27 #[.agg #[.slice h.gp n.gates.length h.gc, .slice h.rp n.roles.length h.rc, .slice h.bp n.bases.length h.bc, .slice h.ip n.inputs.length h.ic, .slice h.ap n.initial.length h.ac, .slice h.np n.next.length h.nc, .slice h.lp n.legal.length h.lc, .slice h.op n.goals.length h.oc, .slice h.sp n.sees.length h.sc, .int .i64 n.last, .bool n.hid], vs, vi] w' (ValsE (valsN (bitsL a n.bases.length) (bitsL b n.inputs.length) n) 0 w') from by
    have := CVE0.out ZN.out w' q (bitsL a n.bases.length) (bitsL b n.inputs.length) vs vi hs hi
    rw [evv_ok EV.out, EV.out] at this
    exact this)
  have CKN := Lib.hid (fun w' (q : Below Wb.heap.size Wb w') vs hs => CKN0.out ZN.out w' q (bitsL a n.bases.length) vs hs)
  have BAa := Lib.hid (BA.out n.bases.length)
  have BIa := Lib.hid (BI.out n.inputs.length)
  have MIa := Lib.hid (MI.out n.inputs.length hni)
  have OKL : Hid ((valsN (bitsL a n.bases.length) (bitsL b n.inputs.length) n).length ≤ 16384) := Lib.hid (by rw [VL.out]; exact OK.out.few)
  clear hc OKN EVB TVB EXA CVT0 CVE0 CKN0 BA BI MI CR SM EV TV EX hnb hni
  have H2a := (CL.out w2 D2.out)
  obtain ⟨z1, z2, z3, z4, z5, z6, z7, z8, z9, z10, z11, z12, z13⟩ := H2a
  have C3 := Lib.hid (BAa.out w2)
  go_wp2_with fail
  refine C3.out.mono ?_
  rintro e w3 ⟨v3, rfl, hv3, g3⟩
  have J3 : Hid (Below w2.heap.size w2 w3) := Lib.hid g3
  have D3 : Hid (Below Wb.heap.size Wb w3) := Lib.hid (next0 D2.out g3)
  have G3 := Lib.hid hv3
  obtain ⟨p3, c3, rfl⟩ := hv3.form
  clear hv3
  clear g3 C3
  clear z1 z2 z3 z4 z5 z6 z7 z8 z9 z10 z11 z12 z13 i1 BAa
  have SR := Lib.hid (fun w' (q : Below w3.heap.size w3 w') => row_on G3.out q)
  have HC := Lib.hid (fun w' (q : Below w3.heap.size w3 w') => CL.out w' (next0 D3.out q))
  have BW := Lib.hid (fun w' (q : Below w3.heap.size w3 w') => show Below Wb.heap.size Wb w' from next0 D3.out q)
  go_upto_region 4 with fail
  go_cut [6, 7] (fun s t wx => t = .int .i64 0 ∧ Hid (StN ((valsN (bitsL a n.bases.length) (bitsL b n.inputs.length) n).map b2t) wx s) ∧ Hid (Below w3.heap.size w3 wx))
  case first =>
    have hq0 : Hid (Below w3.heap.size w3 w3.drew) := Lib.hid (Below.refl _ _).drew
    obtain ⟨y1, y2, y3, y4, y5, y6, y7, y8, y9, y10, y11, y12, y13⟩ := HC.out _ hq0.out
    go_region_held3 (fun w' => w'.cell? ⟨w.heap.size, 0, none⟩ = some (.slice h.gp n.gates.length h.gc) ∧ w'.cell? ⟨w.heap.size, 1, none⟩ = some (.slice h.rp n.roles.length h.rc) ∧ w'.cell? ⟨w.heap.size, 2, none⟩ = some (.slice h.bp n.bases.length h.bc) ∧ w'.cell? ⟨w.heap.size, 3, none⟩ = some (.slice h.ip n.inputs.length h.ic) ∧ w'.cell? ⟨w.heap.size, 4, none⟩ = some (.slice h.ap n.initial.length h.ac) ∧ w'.cell? ⟨w.heap.size, 5, none⟩ = some (.slice h.np n.next.length h.nc) ∧ w'.cell? ⟨w.heap.size, 6, none⟩ = some (.slice h.lp n.legal.length h.lc) ∧ w'.cell? ⟨w.heap.size, 7, none⟩ = some (.slice h.op n.goals.length h.oc) ∧ w'.cell? ⟨w.heap.size, 8, none⟩ = some (.slice h.sp n.sees.length h.sc) ∧ w'.cell? ⟨w.heap.size, 9, none⟩ = some (.int .i64 n.last) ∧ w'.cell? ⟨w.heap.size, 10, none⟩ = some (.bool n.hid) ∧ w'.cell? ⟨w.heap.size + 1, 0, none⟩ = some (.int .u64 (a : Int)) ∧ w'.cell? ⟨w.heap.size + 1, 1, none⟩ = some (.int .u64 (b : Int)))
      (first | (with_reducible assumption) | (with_reducible exact ⟨‹_›, ‹_›, ‹_›, ‹_›, ‹_›, ‹_›, ‹_›, ‹_›, ‹_›, ‹_›, ‹_›, ‹_›, ‹_›⟩) | (with_reducible refine HC.out _ ?_; repeat (first | (with_reducible exact Hid.out (by assumption)) | (with_reducible exact Below.refl _ _) | (with_reducible refine Below.drew ?_))))
      (first
        | (go_at_call 20; (try go_split_ands); refine (CKN.out _ (BW.out _ (by repeat (first | (with_reducible exact Hid.out (by assumption)) | (with_reducible exact Below.refl _ _) | (with_reducible refine Below.drew ?_)))) _ (SR.out _ (by repeat (first | (with_reducible exact Hid.out (by assumption)) | (with_reducible exact Below.refl _ _) | (with_reducible refine Below.drew ?_))))).mono ?_; rintro e wa ⟨ua, rfl, ra, qa⟩; have RA := Lib.hid (StN.of ra); obtain ⟨pa, ca, rfl⟩ := ra.form; have QA := Lib.hid qa; clear ra; (have QG : Hid (Below w3.heap.size w3 wa) := Lib.hid (by (refine next0 ?_ qa; repeat (first | (with_reducible exact Hid.out (by assumption)) | (with_reducible exact Below.refl _ _) | (with_reducible refine Below.drew ?_))))); clear qa; obtain ⟨y1, y2, y3, y4, y5, y6, y7, y8, y9, y10, y11, y12, y13⟩ := HC.out _ QG.out)
        | (go_at_call 26; (try go_split_ands); refine (MIa.out _).mono ?_; rintro e wb ⟨ub, rfl, rb, qb⟩; have RB := Lib.hid (StN.of rb); obtain ⟨pb, cb, rfl⟩ := rb.form; have QB := Lib.hid qb; clear rb; (have QH : Hid (Below w3.heap.size w3 wb) := Lib.hid (by (refine next0 ?_ qb; repeat (first | (with_reducible exact Hid.out (by assumption)) | (with_reducible exact Below.refl _ _) | (with_reducible refine Below.drew ?_))))); clear qb; obtain ⟨y1, y2, y3, y4, y5, y6, y7, y8, y9, y10, y11, y12, y13⟩ := HC.out _ QH.out)
        | (go_at_call 17; (try go_split_ands); refine (CVT.out _ (BW.out _ (by repeat (first | (with_reducible exact Hid.out (by assumption)) | (with_reducible exact Below.refl _ _) | (with_reducible refine Below.drew ?_)))) _ _ (RA.out _ (by (repeat (with_reducible refine Below.drew ?_)); first | (with_reducible exact Below.refl _ _) | (first | (exact QB.out) | (refine undrew ?_; (first | (exact QB.out) | (refine undrew ?_; (first | (exact QB.out) | (refine undrew ?_; (first | (exact QB.out) | (refine undrew ?_; (first | (exact QB.out) | (refine undrew ?_; (first | (exact QB.out) | (refine undrew ?_; (first | (exact QB.out) | (refine undrew ?_; (first | (exact QB.out) | (refine undrew ?_; (first | (exact QB.out) | (refine undrew ?_; (first | (exact QB.out) | (refine undrew ?_; (first | (exact QB.out) | (refine undrew ?_; (first | (exact QB.out) | (refine undrew ?_; (first | (exact QB.out) | (refine undrew ?_; (first | (exact QB.out) | (refine undrew ?_; (first | (exact QB.out)))))))))))))))))))))))))))))))) (RB.out _ (by (repeat (with_reducible refine Below.drew ?_)); first | (with_reducible exact Below.refl _ _) | (first | (exact QA.out) | (refine undrew ?_; (first | (exact QA.out) | (refine undrew ?_; (first | (exact QA.out) | (refine undrew ?_; (first | (exact QA.out) | (refine undrew ?_; (first | (exact QA.out) | (refine undrew ?_; (first | (exact QA.out) | (refine undrew ?_; (first | (exact QA.out) | (refine undrew ?_; (first | (exact QA.out) | (refine undrew ?_; (first | (exact QA.out) | (refine undrew ?_; (first | (exact QA.out) | (refine undrew ?_; (first | (exact QA.out) | (refine undrew ?_; (first | (exact QA.out) | (refine undrew ?_; (first | (exact QA.out) | (refine undrew ?_; (first | (exact QA.out) | (refine undrew ?_; (first | (exact QA.out))))))))))))))))))))))))))))))))).mono ?_; rintro e wv ⟨uv, rfl, rv, qv⟩; have RV := Lib.hid (StN.of rv); clear rv; (have QI : Hid (Below w3.heap.size w3 wv) := Lib.hid (by (refine next0 ?_ qv; repeat (first | (with_reducible exact Hid.out (by assumption)) | (with_reducible exact Below.refl _ _) | (with_reducible refine Below.drew ?_))))); clear qv; obtain ⟨y1, y2, y3, y4, y5, y6, y7, y8, y9, y10, y11, y12, y13⟩ := HC.out _ QI.out))
    all_goals
      go_wp2_with fail
      go_meet
      refine ⟨rfl, ?_, ?_⟩
      · first | (with_reducible exact RV) | exact Lib.hid (StN.step RV.out (by (repeat (with_reducible refine Below.drew ?_)); (with_reducible exact Below.refl _ _)))
      · first | (with_reducible exact QI) | exact Lib.hid (by repeat (first | (with_reducible exact QI.out) | (refine Below.drew ?_)))
  case rest =>
  generalize hww : wc = wy at *
  clear hww
  obtain ⟨rfl, G6, J6⟩ := hcut
  have DY : Hid (Below Wb.heap.size Wb wy) := Lib.hid (next0 D3.out J6.out)
  generalize valsN (bitsL a n.bases.length) (bitsL b n.inputs.length) n = V at *
  have ML : Hid ((V.map b2t).length = V.length) := Lib.hid (by simp)
  have MG := Lib.hid (fun (j : Nat) x (hx : V[j]? = some x) => show (V.map b2t)[j]? = some (b2t x) by rw [List.getElem?_map, hx]; rfl)
  generalize V.map b2t = T at *
  generalize hla : V.length = m at *
  generalize hlt : T.length = mt at *
  have HLA := Lib.hid hla
  have HLT := Lib.hid hlt
  clear hla hlt
  have eml := ML.out
  clear ML
  subst eml
  obtain ⟨p6, c6, rfl⟩ := (G6.out _ (Below.refl _ _)).form
  have SR2 := Lib.hid (fun w' (q : Below wy.heap.size wy w') => SR.out w' (next0 J6.out q))
  clear SR HC BW CVT CKN MIa
  have HC := Lib.hid (fun w' (q : Below wy.heap.size wy w') => CL.out w' (next0 DY.out q))
  have BW := Lib.hid (fun w' (q : Below wy.heap.size wy w') => show Below Wb.heap.size Wb w' from next0 DY.out q)
  go_upto_region 5 with fail
  go_cut [8, 9] (fun s t wx => t = .int .i64 0 ∧ Hid (StB V wx s) ∧ Hid (Below wy.heap.size wy wx))
  case first =>
    have hq0 : Hid (Below wy.heap.size wy wy.drew) := Lib.hid (Below.refl _ _).drew
    obtain ⟨y1, y2, y3, y4, y5, y6, y7, y8, y9, y10, y11, y12, y13⟩ := HC.out _ hq0.out
    go_region_held3 (fun w' => w'.cell? ⟨w.heap.size, 0, none⟩ = some (.slice h.gp n.gates.length h.gc) ∧ w'.cell? ⟨w.heap.size, 1, none⟩ = some (.slice h.rp n.roles.length h.rc) ∧ w'.cell? ⟨w.heap.size, 2, none⟩ = some (.slice h.bp n.bases.length h.bc) ∧ w'.cell? ⟨w.heap.size, 3, none⟩ = some (.slice h.ip n.inputs.length h.ic) ∧ w'.cell? ⟨w.heap.size, 4, none⟩ = some (.slice h.ap n.initial.length h.ac) ∧ w'.cell? ⟨w.heap.size, 5, none⟩ = some (.slice h.np n.next.length h.nc) ∧ w'.cell? ⟨w.heap.size, 6, none⟩ = some (.slice h.lp n.legal.length h.lc) ∧ w'.cell? ⟨w.heap.size, 7, none⟩ = some (.slice h.op n.goals.length h.oc) ∧ w'.cell? ⟨w.heap.size, 8, none⟩ = some (.slice h.sp n.sees.length h.sc) ∧ w'.cell? ⟨w.heap.size, 9, none⟩ = some (.int .i64 n.last) ∧ w'.cell? ⟨w.heap.size, 10, none⟩ = some (.bool n.hid) ∧ w'.cell? ⟨w.heap.size + 1, 0, none⟩ = some (.int .u64 (a : Int)) ∧ w'.cell? ⟨w.heap.size + 1, 1, none⟩ = some (.int .u64 (b : Int)))
      (first | (with_reducible assumption) | (with_reducible exact ⟨‹_›, ‹_›, ‹_›, ‹_›, ‹_›, ‹_›, ‹_›, ‹_›, ‹_›, ‹_›, ‹_›, ‹_›, ‹_›⟩) | (with_reducible refine HC.out _ ?_; repeat (first | (with_reducible exact Hid.out (by assumption)) | (with_reducible exact Below.refl _ _) | (with_reducible refine Below.drew ?_))))
      (first
        | (go_at_call 25; (try go_split_ands); refine (BIa.out _).mono ?_; rintro e wb ⟨ub, rfl, rb, qb⟩; have RB := Lib.hid (StN.of rb); obtain ⟨pb, cb, rfl⟩ := rb.form; have QB := Lib.hid qb; clear rb; (have QH : Hid (Below wy.heap.size wy wb) := Lib.hid (by (refine next0 ?_ qb; repeat (first | (with_reducible exact Hid.out (by assumption)) | (with_reducible exact Below.refl _ _) | (with_reducible refine Below.drew ?_))))); clear qb; obtain ⟨y1, y2, y3, y4, y5, y6, y7, y8, y9, y10, y11, y12, y13⟩ := HC.out _ QH.out)
        | (go_at_call 27; (try go_split_ands); refine (CVE.out _ (BW.out _ (by repeat (first | (with_reducible exact Hid.out (by assumption)) | (with_reducible exact Below.refl _ _) | (with_reducible refine Below.drew ?_)))) _ _ (SR2.out _ (by repeat (first | (with_reducible exact Hid.out (by assumption)) | (with_reducible exact Below.refl _ _) | (with_reducible refine Below.drew ?_)))) (RB.out _ (by (repeat (with_reducible refine Below.drew ?_)); (with_reducible exact Below.refl _ _)))).mono ?_; rintro e wv ⟨uv, rfl, rv, qv⟩; have RV := Lib.hid (StB.of rv); clear rv; (have QI : Hid (Below wy.heap.size wy wv) := Lib.hid (by (refine next0 ?_ qv; repeat (first | (with_reducible exact Hid.out (by assumption)) | (with_reducible exact Below.refl _ _) | (with_reducible refine Below.drew ?_))))); clear qv; obtain ⟨y1, y2, y3, y4, y5, y6, y7, y8, y9, y10, y11, y12, y13⟩ := HC.out _ QI.out))
    all_goals
      go_wp2_with fail
      go_meet
      refine ⟨rfl, ?_, ?_⟩
      · first | (with_reducible exact RV) | exact Lib.hid (StB.step RV.out (by (repeat (with_reducible refine Below.drew ?_)); (with_reducible exact Below.refl _ _)))
      · first | (with_reducible exact QI) | exact Lib.hid (by repeat (first | (with_reducible exact QI.out) | (refine Below.drew ?_)))
  case rest =>
  generalize hww : wc = w8 at *
  clear hww
  obtain ⟨rfl, G8, J8⟩ := hcut
  have D8 : Hid (Below Wb.heap.size Wb w8) := Lib.hid (next0 DY.out J8.out)
  obtain ⟨p8, c8, rfl⟩ := (G8.out _ (Below.refl _ _)).form
  have g6 := G6.out w8 J8.out
  have g8 := G8.out w8 (Below.refl _ _)
  have e7 := HLT.out
  rw [e7] at g6
  have IA := Lib.hid (readn (p := p6) (n := mt) (c := c6) g6 (fun b hb => hb))
  have e8 := HLA.out
  rw [e8] at g8
  rw [e8, e7]
  have IB := Lib.hid (readb (p := p8) (n := mt) (c := c8) g8 (fun b hb => hb))
  have HVC : mt ≤ 9223372036854775807 := by have := OKL.out; omega
  clear SR2 HC BW CVE BIa TL VL G6 G8 CL HQ g6 g8 e8 e7
  generalize mt = m at *
  go_wp2_with fail
  go_loopw [10] (fun i wr => ∃ k : Nat, k ≤ m ∧ i = .int .i64 k ∧ Hid (Below w8.heap.size w8 wr)) (fun i _ => m - (intOf i).toNat)
  case atStart => exact ⟨0, Nat.zero_le _, rfl, Lib.hid (Below.refl _ _)⟩
  case round =>
    obtain ⟨k, hk, rfl, hD⟩ := hrel
    by_cases hlt : k < m
    · obtain ⟨x, hx⟩ : ∃ x, V[k]? = some x := ⟨V[k]'(by rw [HLA.out]; exact hlt), by simp⟩
      obtain ⟨g1, o1, rfl, c1⟩ := IA.out k _ (MG.out k x hx) wr hD.out
      obtain ⟨g2, o2, rfl, c2⟩ := IB.out k x hx wr hD.out
      have j0 : (0 : Int) ≤ (k : Int) := by omega
      have j1 : (k : Int) < m := by omega
      clear hx
      cases x
      · have c3 : wr.cell? ⟨g1, o1 + k, none⟩ = some (.int .i64 0) := c1
        clear c1
        go_wp2_with fail
        go_quiet (fail)
        have DF := Lib.hid (below_drewN hD.out nq)
        go_wp2_with fail
        go_roundw
        case rel => first | exact ⟨k + 1, by omega, by go_num, DF⟩ | ((repeat (apply Exists.intro)); refine ⟨?_, rfl⟩; exact ⟨k + 1, by omega, by go_num, DF⟩)
        case measure => simp [intOf] <;> omega
      · have c3 : wr.cell? ⟨g1, o1 + k, none⟩ = some (.int .i64 1) := c1
        clear c1
        go_wp2_with fail
        go_quiet (fail)
        have DF := Lib.hid (below_drewN hD.out nq)
        go_wp2_with fail
        go_roundw
        case rel => first | exact ⟨k + 1, by omega, by go_num, DF⟩ | ((repeat (apply Exists.intro)); refine ⟨?_, rfl⟩; exact ⟨k + 1, by omega, by go_num, DF⟩)
        case measure => simp [intOf] <;> omega
    · obtain rfl : k = m := by omega
      have CA := Lib.hid (alive_any wr (TB.out wr (next0 D8.out hD.out)))
      have D9 : Hid (Below Wb.heap.size Wb wr) := Lib.hid (next0 D8.out hD.out)
      go_wp2_with fail
      refine CA.out.mono ?_
      rintro e w9 ⟨rfl, g9⟩
      have DF := Lib.hid (KW.out _ (next0 D9.out g9))
      clear g9 CA
      go_wp2_with fail
      go_ret
      exact ⟨rfl, DF.out⟩
end NetTx
end Go.Proofs.YtedilgnnfmplgaaDoor
