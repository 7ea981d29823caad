/- The walk of TernaryRefines. Condition: the tables are as laid. Made by gnTy.py. -/
import Derived.Test.YtedilgnnfmplgaaDoorNetTx
namespace Go.Proofs.YtedilgnnfmplgaaDoor
open Go Go.RowKit
namespace NetTy
open Kit TermM TermI TermH NetM NetN NetK NetA NetC NetI NetMk NetNu NetOk NetEv NetBo NetS NetTn NetTp NetTt NetTm NetTq NetTk NetTh NetSa NetT5 NetSl NetSz NetBp NetBt NetSu9
theorem ones_bit {j : Nat} (h : j < 64) : Nat.testBit 18446744073709551615 j = true := by
  have e : (18446744073709551615 : Nat) = 2 ^ 64 - 1 := by decide
  rw [e, Nat.testBit_two_pow_sub_one, decide_eq_true h]
set_option maxRecDepth 100000 in
set_option maxHeartbeats 12800000 in
theorem law (n : Nt) (h : Nh) (a b c d : Nat) (w : World) (ha : a < 18446744073709551616) (hb : b < 18446744073709551616) (hc : c < 18446744073709551616) (hd : d < 18446744073709551616) (k : NetIn (· < w.heap.size) w n h) (ht : Tb w) :
    Calls Tryd.prog 7 #[.agg #[.slice h.gp n.gates.length h.gc, .slice h.rp n.roles.length h.rc, .slice h.bp n.bases.length h.bc, .slice h.ip n.inputs.length h.ic, .slice h.ap n.initial.length h.ac, .slice h.np n.next.length h.nc, .slice h.lp n.legal.length h.lc, .slice h.op n.goals.length h.oc, .slice h.sp n.sees.length h.sc, .int .i64 n.last, .bool n.hid], .agg #[.int .u64 (a : Int), .int .u64 (b : Int)], .agg #[.int .u64 (c : Int), .int .u64 (d : Int)]] w fun e w' => e = .returned (.bool true) ∧ Below w.heap.size w w' := by
  obtain ⟨W1, hW1⟩ : ∃ z, z = w.alloc (.cells #[.slice h.gp n.gates.length h.gc, .slice h.rp n.roles.length h.rc, .slice h.bp n.bases.length h.bc, .slice h.ip n.inputs.length h.ic, .slice h.ap n.initial.length h.ac, .slice h.np n.next.length h.nc, .slice h.lp n.legal.length h.lc, .slice h.op n.goals.length h.oc, .slice h.sp n.sees.length h.sc, .int .i64 n.last, .bool n.hid] 32) := ⟨_, rfl⟩
  obtain ⟨W2, hW2⟩ : ∃ z, z = W1.alloc (.cells #[.int .u64 (a : Int), .int .u64 (b : Int)] 42) := ⟨_, rfl⟩
  obtain ⟨Wb, hWb⟩ : ∃ z, z = W2.alloc (.cells #[.int .u64 (c : Int), .int .u64 (d : Int)] 42) := ⟨_, rfl⟩
  have K1 : Hid (Below w.heap.size w W1) := Lib.hid (by rw [hW1]; exact below_alloc _ _)
  have K2 : Hid (Below W1.heap.size W1 W2) := Lib.hid (by rw [hW2]; exact below_alloc _ _)
  have K3 : Hid (Below W2.heap.size W2 Wb) := Lib.hid (by rw [hWb]; exact below_alloc _ _)
  have hz1 : W1.heap.size = w.heap.size + 1 := by rw [hW1]; simp
  have hz2 : W2.heap.size = w.heap.size + 2 := by rw [hW2]; simp [hz1]
  have BB : Hid (Below w.heap.size w Wb) := Lib.hid (next0 (next0 K1.out K2.out) K3.out)
  have H1 : Hid (Has Wb w.heap.size (netC n h)) := Lib.hid (by rw [hWb, hW2, hW1]; exact ((Has.new _ _ _).alloc _).alloc _)
  have H2 : Hid (Has Wb (w.heap.size + 1) #[.int .u64 (a : Int), .int .u64 (b : Int)]) := Lib.hid (by rw [hWb, hW2, ← hz1]; exact (Has.new _ _ _).alloc _)
  have H3 : Hid (Has Wb (w.heap.size + 1 + 1) #[.int .u64 (c : Int), .int .u64 (d : Int)]) := Lib.hid (by rw [hWb, show w.heap.size + 1 + 1 = W2.heap.size by omega]; exact Has.new _ _ _)
  have hzB := BB.out.size
  have KW := Lib.hid (fun w' (q : Below Wb.heap.size Wb w') => show Below w.heap.size w w' from BB.out.trans (q.mono hzB))
  have NK := Lib.hid (fun w' (q : Below Wb.heap.size Wb w') => k.deep (KW.out w' q) (Nat.le_refl _))
  have NW := Lib.hid (fun w' (q : Below Wb.heap.size Wb w') => (NK.out w' q).wide (ok' := (· < w'.heap.size)) fun b hb => Nat.lt_of_lt_of_le hb (KW.out w' q).size)
  have HQ := Lib.hid (fun w' (q : Below Wb.heap.size Wb w') => hasN (H1.out.step0 q))
  have TB := Lib.hid (fun w' (q : Below Wb.heap.size Wb w') => ht.below (KW.out w' q))
  have CL : Hid (∀ w', Below Wb.heap.size Wb w' → w'.cell? ⟨w.heap.size, 0, none⟩ = some (.slice h.gp n.gates.length h.gc) ∧ w'.cell? ⟨w.heap.size, 1, none⟩ = some (.slice h.rp n.roles.length h.rc) ∧ w'.cell? ⟨w.heap.size, 2, none⟩ = some (.slice h.bp n.bases.length h.bc) ∧ w'.cell? ⟨w.heap.size, 3, none⟩ = some (.slice h.ip n.inputs.length h.ic) ∧ w'.cell? ⟨w.heap.size, 4, none⟩ = some (.slice h.ap n.initial.length h.ac) ∧ w'.cell? ⟨w.heap.size, 5, none⟩ = some (.slice h.np n.next.length h.nc) ∧ w'.cell? ⟨w.heap.size, 6, none⟩ = some (.slice h.lp n.legal.length h.lc) ∧ w'.cell? ⟨w.heap.size, 7, none⟩ = some (.slice h.op n.goals.length h.oc) ∧ w'.cell? ⟨w.heap.size, 8, none⟩ = some (.slice h.sp n.sees.length h.sc) ∧ w'.cell? ⟨w.heap.size, 9, none⟩ = some (.int .i64 n.last) ∧ w'.cell? ⟨w.heap.size, 10, none⟩ = some (.bool n.hid) ∧ w'.cell? ⟨w.heap.size + 1, 0, none⟩ = some (.int .u64 (a : Int)) ∧ w'.cell? ⟨w.heap.size + 1, 1, none⟩ = some (.int .u64 (b : Int)) ∧ w'.cell? ⟨w.heap.size + 1 + 1, 0, none⟩ = some (.int .u64 (c : Int)) ∧ w'.cell? ⟨w.heap.size + 1 + 1, 1, none⟩ = some (.int .u64 (d : Int))) := Lib.hid (fun w' q => by
    obtain ⟨q1, q2, q3, q4, q5, q6, q7, q8, q9, q10, q11⟩ := hasN (H1.out.step0 q)
    exact ⟨q1, q2, q3, q4, q5, q6, q7, q8, q9, q10, q11, (H2.out.step0 q).cell 0, (H2.out.step0 q).cell 1, (H3.out.step0 q).cell 0, (H3.out.step0 q).cell 1⟩)
  have SM := Lib.hid (fun w' (q : Below Wb.heap.size Wb w') => NetSl.law_small n h w.heap.size w' (KW.out w' q).size (NK.out w' q))
  have CR := Lib.hid (fun (hz : SzN n) w' (q : Below Wb.heap.size Wb w') => NetY.rcheck_any n h w.heap.size w' (KW.out w' q).size (NK.out w' q) hz.next hz.legal hz.goals hz.seen)
  have CVT0 := Lib.hid (fun (hz : SzN n) w' (q : Below Wb.heap.size Wb w') bs is vs vi hs hi => NetTv.values_any n h bs is w'.heap.size w' vs vi (Nat.le_refl _) (NW.out w' q) hz hs hi (TB.out w' q))
  have MA := Lib.hid (fun m (hm : m ≤ 1000000) w' => marks_any a m ha hm w')
  have MB := Lib.hid (fun m (hm : m ≤ 1000000) w' => marks_any b m hb hm w')
  have HHc := Lib.hid (fun l w' v (hl : RowE KN (· < w'.heap.size) w' l v) (hm : l.length ≤ 64) => hide_any l c _ w' v hl (fun _ h => h) hc hm)
  have HHd := Lib.hid (fun l w' v (hl : RowE KN (· < w'.heap.size) w' l v) (hm : l.length ≤ 64) => hide_any l d _ w' v hl (fun _ h => h) hd hm)
  have HHo := Lib.hid (fun l w' v (hl : RowE KN (· < w'.heap.size) w' l v) (hm : l.length ≤ 64) => show Calls Tryd.prog 28 #[v, .int .u64 18446744073709551615] w' (InsE (hideN l 18446744073709551615) w') from by
    have := hide_any l 18446744073709551615 _ w' v hl (fun _ h => h) (by omega) hm
    rw [show ((18446744073709551615 : Nat) : Int) = 18446744073709551615 from rfl] at this
    exact this)
  have D0 : Hid (Below Wb.heap.size Wb Wb) := Lib.hid (Below.refl _ _)
  have HZ1 := Lib.hid hz1
  have HZ2 := Lib.hid hz2
  clear k NK NW K1 K2 K3 ha hb hc hd hz1 hz2 ht
  have OKN : Hid (chkN groundB n = 0 → NOk n) := Lib.hid nok
  have TE : Hid (chkN groundB n = 0 → ∀ bs is : List Int, bs.length = n.bases.length → is.length = n.inputs.length → tvE groundB bs is n = 0) := Lib.hid (fun e bs is e1 e2 => te_ok e e1 e2)
  generalize hchk : chkN groundB n = ck at *
  clear hchk
  go_enter Tryd.func7, Tryd.ntmps7
  go_upto_region 1 with fail
  have e1 := HZ1.out
  have e2 := HZ2.out
  rw [← hW1, ← hW2, ← hWb]
  clear hWb hW1 hW2 e1 e2
  have C1 := Lib.hid (SM.out Wb D0.out)
  obtain ⟨q1, q2, q3, q4, q5, q6, q7, q8, q9, q10, q11⟩ := HQ.out Wb D0.out
  go_wp2_with fail
  refine C1.out.mono ?_
  rintro e w1 ⟨b1, rfl, s1, g1⟩
  have J1 : Hid (Below Wb.heap.size Wb w1) := Lib.hid g1
  have D1 : Hid (Below Wb.heap.size Wb w1) := Lib.hid (next0 D0.out g1)
  have S1 := Lib.hid s1
  clear s1
  clear g1 C1 q1 q2 q3 q4 q5 q6 q7 q8 q9 q10 q11
  cases b1
  · have C2 := Lib.hid (alive_any w1 (TB.out w1 D1.out))
    go_wp2_with fail
    refine C2.out.mono ?_
    rintro e w2 ⟨rfl, g2⟩
    have J2 : Hid (Below w1.heap.size w1 w2) := Lib.hid g2
    have D2 : Hid (Below Wb.heap.size Wb w2) := Lib.hid (next0 D1.out g2)
    clear g2 C2
    have DF := Lib.hid (KW.out _ D2.out)
    go_wp2_with fail
    go_ret
    exact ⟨rfl, DF.out⟩
  have ZN := Lib.hid (sz_of (S1.out rfl))
  have SN := Lib.hid (S1.out rfl)
  clear S1
  have C2 := Lib.hid (CR.out ZN.out w1 D1.out)
  obtain ⟨q1, q2, q3, q4, q5, q6, q7, q8, q9, q10, q11⟩ := HQ.out w1 D1.out
  go_wp2_with fail
  refine C2.out.mono ?_
  rintro e w2 ⟨rfl, g2⟩
  have J2 : Hid (Below w1.heap.size w1 w2) := Lib.hid g2
  have D2 : Hid (Below Wb.heap.size Wb w2) := Lib.hid (next0 D1.out g2)
  clear g2 C2 q1 q2 q3 q4 q5 q6 q7 q8 q9 q10 q11
  by_cases hc : ck = 0
  rotate_left
  · have i1 : (ck != 0) = true := by simp [hc]
    clear hc
    have C3 := Lib.hid (alive_any w2 (TB.out w2 D2.out))
    go_wp2_with fail
    refine C3.out.mono ?_
    rintro e w3 ⟨rfl, g3⟩
    have J3 : Hid (Below w2.heap.size w2 w3) := Lib.hid g3
    have D3 : Hid (Below Wb.heap.size Wb w3) := Lib.hid (next0 D2.out g3)
    clear g3 C3
    have DF := Lib.hid (KW.out _ D3.out)
    go_wp2_with fail
    go_ret
    exact ⟨rfl, DF.out⟩
  have i1 : (ck != 0) = false := by simp [hc]
  have OK := Lib.hid (OKN.out hc)
  have TEa := Lib.hid (TE.out hc)
  have hnb : n.bases.length ≤ 64 := by have := OK.out.next; have := SN.out.next; omega
  have hni : n.inputs.length ≤ 64 := by have := OK.out.legal; have := SN.out.legal; omega
  have CVT := Lib.hid (fun w' (q : Below Wb.heap.size Wb w') bs is (e1 : bs.length = n.bases.length) (e2 : is.length = n.inputs.length) vs vi hs hi => show Calls Tryd.prog 17 #[.agg #[.slice h.gp n.gates.length h.gc, .slice h.rp n.roles.length h.rc, .slice h.bp n.bases.length h.bc, .slice h.ip n.inputs.length h.ic, .slice h.ap n.initial.length h.ac, .slice h.np n.next.length h.nc, .slice h.lp n.legal.length h.lc, .slice h.op n.goals.length h.oc, .slice h.sp n.sees.length h.sc, .int .i64 n.last, .bool n.hid], vs, vi] w' (IntE (tvalsN bs is n) 0 w') from by
    have := CVT0.out ZN.out w' q bs is vs vi hs hi
    rw [tvv_ok (TEa.out bs is e1 e2), TEa.out bs is e1 e2] at this
    exact this)
  have LB : Hid ((markT a n.bases.length).length = n.bases.length) := Lib.hid (markt_len _ _)
  have LI : Hid ((markT b n.inputs.length).length = n.inputs.length) := Lib.hid (markt_len _ _)
  have MAa := Lib.hid (MA.out n.bases.length (by omega))
  have MBa := Lib.hid (MB.out n.inputs.length (by omega))
  have ONE : Hid (∀ (l : List Int), l.length ≤ 64 → ∀ j, j < l.length → Nat.testBit 18446744073709551615 j = true) := Lib.hid (fun l hl j hj => ones_bit (by omega))
  have HNB := Lib.hid hnb
  have HNI := Lib.hid hni
  clear hc OKN TE TEa CVT0 MA MB CR SM hnb hni
  generalize markT a n.bases.length = mb at *
  generalize markT b n.inputs.length = mi at *
  have CA := Lib.hid (fun w' (q : Below Wb.heap.size Wb w') vs vi hs hi => CVT.out w' q mb mi LB.out LI.out vs vi hs hi)
  have CB := Lib.hid (fun w' (q : Below Wb.heap.size Wb w') vs vi hs hi => CVT.out w' q (hideN mb c) mi ((hide_len _ _ _).trans LB.out) LI.out vs vi hs hi)
  have CC := Lib.hid (fun w' (q : Below Wb.heap.size Wb w') vs vi hs hi => CVT.out w' q (hideN mb c) (hideN mi d) ((hide_len _ _ _).trans LB.out) ((hide_len _ _ _).trans LI.out) vs vi hs hi)
  have CD := Lib.hid (fun w' (q : Below Wb.heap.size Wb w') vs vi hs hi => CVT.out w' q (hideN mb 18446744073709551615) (hideN mi 18446744073709551615) ((hide_len _ _ _).trans LB.out) ((hide_len _ _ _).trans LI.out) vs vi hs hi)
  have Hbc := Lib.hid (fun w' v hl => HHc.out mb w' v hl (by rw [LB.out]; exact HNB.out))
  have Hid1 := Lib.hid (fun w' v hl => HHd.out mi w' v hl (by rw [LI.out]; exact HNI.out))
  have Hbo := Lib.hid (fun w' v hl => HHo.out mb w' v hl (by rw [LB.out]; exact HNB.out))
  have Hio := Lib.hid (fun w' v hl => HHo.out mi w' v hl (by rw [LI.out]; exact HNI.out))
  have R1 := Lib.hid (ref_n OK.out (ref_hide mb c) (ref_self mi))
  have R2 := Lib.hid (ref_n OK.out (ref_self (hideN mb c)) (ref_hide mi d))
  have R3 := Lib.hid (ref_n OK.out (ref_hide mb c) (ref_hide mi d))
  have R4 := Lib.hid (ref_n OK.out (ref_all (l := mb) (a := c) (ONE.out mb (by rw [LB.out]; exact HNB.out))) (ref_all (l := mi) (a := d) (ONE.out mi (by rw [LI.out]; exact HNI.out))))
  clear CVT HHc HHd HHo ONE HNB HNI SN OK
  generalize hideN mb c = hb at *
  generalize hideN mi d = hi at *
  generalize hideN mb 18446744073709551615 = ob at *
  generalize hideN mi 18446744073709551615 = oi at *
  generalize tvalsN mb mi n = VA at *
  generalize tvalsN hb mi n = VB at *
  generalize tvalsN hb hi n = VC at *
  generalize tvalsN ob oi n = VD at *
  clear LB LI
  have HC := Lib.hid (fun w' (q : Below w2.heap.size w2 w') => CL.out w' (next0 D2.out q))
  have BW := Lib.hid (fun w' (q : Below w2.heap.size w2 w') => show Below Wb.heap.size Wb w' from next0 D2.out q)
  go_upto_region 3 with fail
  go_cut [7, 8] (fun s t wx => Hid (StN mb wx s) ∧ Hid (StN mi wx t) ∧ Hid (Below w2.heap.size w2 wx))
  case first =>
    have hq0 : Hid (Below w2.heap.size w2 w2.drew) := Lib.hid (Below.refl _ _).drew
    obtain ⟨y1, y2, y3, y4, y5, y6, y7, y8, y9, y10, y11, y12, y13, y14, y15⟩ := HC.out _ hq0.out
    go_region_held3 (fun w' => w'.cell? ⟨w.heap.size, 0, none⟩ = some (.slice h.gp n.gates.length h.gc) ∧ w'.cell? ⟨w.heap.size, 1, none⟩ = some (.slice h.rp n.roles.length h.rc) ∧ w'.cell? ⟨w.heap.size, 2, none⟩ = some (.slice h.bp n.bases.length h.bc) ∧ w'.cell? ⟨w.heap.size, 3, none⟩ = some (.slice h.ip n.inputs.length h.ic) ∧ w'.cell? ⟨w.heap.size, 4, none⟩ = some (.slice h.ap n.initial.length h.ac) ∧ w'.cell? ⟨w.heap.size, 5, none⟩ = some (.slice h.np n.next.length h.nc) ∧ w'.cell? ⟨w.heap.size, 6, none⟩ = some (.slice h.lp n.legal.length h.lc) ∧ w'.cell? ⟨w.heap.size, 7, none⟩ = some (.slice h.op n.goals.length h.oc) ∧ w'.cell? ⟨w.heap.size, 8, none⟩ = some (.slice h.sp n.sees.length h.sc) ∧ w'.cell? ⟨w.heap.size, 9, none⟩ = some (.int .i64 n.last) ∧ w'.cell? ⟨w.heap.size, 10, none⟩ = some (.bool n.hid) ∧ w'.cell? ⟨w.heap.size + 1, 0, none⟩ = some (.int .u64 (a : Int)) ∧ w'.cell? ⟨w.heap.size + 1, 1, none⟩ = some (.int .u64 (b : Int)) ∧ w'.cell? ⟨w.heap.size + 1 + 1, 0, none⟩ = some (.int .u64 (c : Int)) ∧ w'.cell? ⟨w.heap.size + 1 + 1, 1, none⟩ = some (.int .u64 (d : Int)))
      (first | (with_reducible assumption) | (with_reducible exact ⟨‹_›, ‹_›, ‹_›, ‹_›, ‹_›, ‹_›, ‹_›, ‹_›, ‹_›, ‹_›, ‹_›, ‹_›, ‹_›, ‹_›, ‹_›⟩) | (with_reducible refine HC.out _ ?_; repeat (first | (with_reducible exact Hid.out (by assumption)) | (with_reducible exact Below.refl _ _) | (with_reducible refine Below.drew ?_))))
      (first
        | (go_at_call 26; (try go_split_ands); (with_reducible refine (MAa.out _).mono ?_); rintro e wa ⟨ua, rfl, ra, qa⟩; have RA := Lib.hid (StN.of ra); obtain ⟨pa, ca, rfl⟩ := ra.form; have QA := Lib.hid qa; clear ra; (have QG : Hid (Below w2.heap.size w2 wa) := Lib.hid (by (refine next0 ?_ qa; repeat (first | (with_reducible exact Hid.out (by assumption)) | (with_reducible exact Below.refl _ _) | (with_reducible refine Below.drew ?_))))); clear qa; obtain ⟨y1, y2, y3, y4, y5, y6, y7, y8, y9, y10, y11, y12, y13, y14, y15⟩ := HC.out _ QG.out)
        | (go_at_call 26; (try go_split_ands); (with_reducible refine (MBa.out _).mono ?_); rintro e wb ⟨ub, rfl, rb, qb⟩; have RB := Lib.hid (StN.of rb); obtain ⟨pb, cb, rfl⟩ := rb.form; have QB := Lib.hid qb; clear rb; (have QH : Hid (Below w2.heap.size w2 wb) := Lib.hid (by (refine next0 ?_ qb; repeat (first | (with_reducible exact Hid.out (by assumption)) | (with_reducible exact Below.refl _ _) | (with_reducible refine Below.drew ?_))))); clear qb; obtain ⟨y1, y2, y3, y4, y5, y6, y7, y8, y9, y10, y11, y12, y13, y14, y15⟩ := HC.out _ QH.out))
    all_goals
      go_wp2_with fail
      go_meet
      refine ⟨?_, ?_, ?_⟩
      · first | (with_reducible exact RA) | exact Lib.hid (StN.step RA.out (by (repeat (with_reducible refine Below.drew ?_)); first | (with_reducible exact Below.refl _ _) | (first | (exact QB.out) | (refine undrew ?_; (first | (exact QB.out) | (refine undrew ?_; (first | (exact QB.out) | (refine undrew ?_; (first | (exact QB.out) | (refine undrew ?_; (first | (exact QB.out) | (refine undrew ?_; (first | (exact QB.out) | (refine undrew ?_; (first | (exact QB.out) | (refine undrew ?_; (first | (exact QB.out) | (refine undrew ?_; (first | (exact QB.out) | (refine undrew ?_; (first | (exact QB.out) | (refine undrew ?_; (first | (exact QB.out) | (refine undrew ?_; (first | (exact QB.out) | (refine undrew ?_; (first | (exact QB.out) | (refine undrew ?_; (first | (exact QB.out) | (refine undrew ?_; (first | (exact QB.out))))))))))))))))))))))))))))))))
      · first | (with_reducible exact RB) | exact Lib.hid (StN.step RB.out (by (repeat (with_reducible refine Below.drew ?_)); first | (with_reducible exact Below.refl _ _) | (first | (exact QA.out) | (refine undrew ?_; (first | (exact QA.out) | (refine undrew ?_; (first | (exact QA.out) | (refine undrew ?_; (first | (exact QA.out) | (refine undrew ?_; (first | (exact QA.out) | (refine undrew ?_; (first | (exact QA.out) | (refine undrew ?_; (first | (exact QA.out) | (refine undrew ?_; (first | (exact QA.out) | (refine undrew ?_; (first | (exact QA.out) | (refine undrew ?_; (first | (exact QA.out) | (refine undrew ?_; (first | (exact QA.out) | (refine undrew ?_; (first | (exact QA.out) | (refine undrew ?_; (first | (exact QA.out) | (refine undrew ?_; (first | (exact QA.out) | (refine undrew ?_; (first | (exact QA.out))))))))))))))))))))))))))))))))
      · exact Lib.hid (by repeat (first | (with_reducible exact Hid.out (by assumption)) | (with_reducible exact Below.refl _ _) | (with_reducible refine Below.drew ?_)))
  case rest =>
  generalize hww : wc = w5 at *
  clear hww
  obtain ⟨G7, G8, Jw5⟩ := hcut
  have Dw5 : Hid (Below Wb.heap.size Wb w5) := Lib.hid (next0 D2.out Jw5.out)
  obtain ⟨p7, c7, rfl⟩ := (G7.out _ (Below.refl _ _)).form
  obtain ⟨p8, c8, rfl⟩ := (G8.out _ (Below.refl _ _)).form
  clear HC BW MAa MBa
  obtain ⟨q1, q2, q3, q4, q5, q6, q7, q8, q9, q10, q11⟩ := HQ.out w5 Dw5.out
  have CAa := Lib.hid (CA.out w5 Dw5.out _ _ (G7.out _ (Below.refl _ _)) (G8.out _ (Below.refl _ _)))
  go_wp2_with fail
  refine CAa.out.mono ?_
  rintro e w6 ⟨v9, rfl, hv9, g9⟩
  have Jw6 : Hid (Below w5.heap.size w5 w6) := Lib.hid g9
  have Dw6 : Hid (Below Wb.heap.size Wb w6) := Lib.hid (next0 Dw5.out g9)
  have G9 : Hid (StN VA w6 v9) := Lib.hid (StN.of hv9)
  obtain ⟨p9, c9, rfl⟩ := hv9.form
  clear hv9 g9 CAa CA q1 q2 q3 q4 q5 q6 q7 q8 q9 q10 q11
  have S7 := Lib.hid (fun w' (q : Below w6.heap.size w6 w') => G7.out w' (next0 Jw6.out q))
  have S8 := Lib.hid (fun w' (q : Below w6.heap.size w6 w') => G8.out w' (next0 Jw6.out q))
  have HC := Lib.hid (fun w' (q : Below w6.heap.size w6 w') => CL.out w' (next0 Dw6.out q))
  have BW := Lib.hid (fun w' (q : Below w6.heap.size w6 w') => show Below Wb.heap.size Wb w' from next0 Dw6.out q)
  go_upto_region 5 with fail
  go_cut [11, 12] (fun s t wx => t = .int .i64 0 ∧ Hid (StN VB wx s) ∧ Hid (Below w6.heap.size w6 wx))
  case first =>
    have hq0 : Hid (Below w6.heap.size w6 w6.drew) := Lib.hid (Below.refl _ _).drew
    obtain ⟨y1, y2, y3, y4, y5, y6, y7, y8, y9, y10, y11, y12, y13, y14, y15⟩ := HC.out _ hq0.out
    go_region_held3 (fun w' => w'.cell? ⟨w.heap.size, 0, none⟩ = some (.slice h.gp n.gates.length h.gc) ∧ w'.cell? ⟨w.heap.size, 1, none⟩ = some (.slice h.rp n.roles.length h.rc) ∧ w'.cell? ⟨w.heap.size, 2, none⟩ = some (.slice h.bp n.bases.length h.bc) ∧ w'.cell? ⟨w.heap.size, 3, none⟩ = some (.slice h.ip n.inputs.length h.ic) ∧ w'.cell? ⟨w.heap.size, 4, none⟩ = some (.slice h.ap n.initial.length h.ac) ∧ w'.cell? ⟨w.heap.size, 5, none⟩ = some (.slice h.np n.next.length h.nc) ∧ w'.cell? ⟨w.heap.size, 6, none⟩ = some (.slice h.lp n.legal.length h.lc) ∧ w'.cell? ⟨w.heap.size, 7, none⟩ = some (.slice h.op n.goals.length h.oc) ∧ w'.cell? ⟨w.heap.size, 8, none⟩ = some (.slice h.sp n.sees.length h.sc) ∧ w'.cell? ⟨w.heap.size, 9, none⟩ = some (.int .i64 n.last) ∧ w'.cell? ⟨w.heap.size, 10, none⟩ = some (.bool n.hid) ∧ w'.cell? ⟨w.heap.size + 1, 0, none⟩ = some (.int .u64 (a : Int)) ∧ w'.cell? ⟨w.heap.size + 1, 1, none⟩ = some (.int .u64 (b : Int)) ∧ w'.cell? ⟨w.heap.size + 1 + 1, 0, none⟩ = some (.int .u64 (c : Int)) ∧ w'.cell? ⟨w.heap.size + 1 + 1, 1, none⟩ = some (.int .u64 (d : Int)))
      (first | (with_reducible assumption) | (with_reducible exact ⟨‹_›, ‹_›, ‹_›, ‹_›, ‹_›, ‹_›, ‹_›, ‹_›, ‹_›, ‹_›, ‹_›, ‹_›, ‹_›, ‹_›, ‹_›⟩) | (with_reducible refine HC.out _ ?_; repeat (first | (with_reducible exact Hid.out (by assumption)) | (with_reducible exact Below.refl _ _) | (with_reducible refine Below.drew ?_))))
      (first
        | (go_at_call 28; (try go_split_ands); (with_reducible refine (Hbc.out _ _ (S7.out _ (by repeat (first | (with_reducible exact Hid.out (by assumption)) | (with_reducible exact Below.refl _ _) | (with_reducible refine Below.drew ?_))))).mono ?_); rintro e wa ⟨ua, rfl, ra, qa⟩; have RA := Lib.hid (StN.of ra); obtain ⟨pa, ca, rfl⟩ := ra.form; have QA := Lib.hid qa; clear ra; (have QG : Hid (Below w6.heap.size w6 wa) := Lib.hid (by (refine next0 ?_ qa; repeat (first | (with_reducible exact Hid.out (by assumption)) | (with_reducible exact Below.refl _ _) | (with_reducible refine Below.drew ?_))))); clear qa; obtain ⟨y1, y2, y3, y4, y5, y6, y7, y8, y9, y10, y11, y12, y13, y14, y15⟩ := HC.out _ QG.out)
        | (go_at_call 17; (try go_split_ands); refine (CB.out _ (BW.out _ (by repeat (first | (with_reducible exact Hid.out (by assumption)) | (with_reducible exact Below.refl _ _) | (with_reducible refine Below.drew ?_)))) _ _ (RA.out _ (by (repeat (with_reducible refine Below.drew ?_)); (with_reducible exact Below.refl _ _))) (S8.out _ (by repeat (first | (with_reducible exact Hid.out (by assumption)) | (with_reducible exact Below.refl _ _) | (with_reducible refine Below.drew ?_))))).mono ?_; rintro e wv ⟨uv, rfl, rv, qv⟩; have RV := Lib.hid (StN.of rv); clear rv; (have QI : Hid (Below w6.heap.size w6 wv) := Lib.hid (by (refine next0 ?_ qv; repeat (first | (with_reducible exact Hid.out (by assumption)) | (with_reducible exact Below.refl _ _) | (with_reducible refine Below.drew ?_))))); clear qv; obtain ⟨y1, y2, y3, y4, y5, y6, y7, y8, y9, y10, y11, y12, y13, y14, y15⟩ := HC.out _ QI.out))
    all_goals
      go_wp2_with fail
      go_meet
      refine ⟨rfl, ?_, ?_⟩
      · first | (with_reducible exact RV) | exact Lib.hid (StN.step RV.out (by (repeat (with_reducible refine Below.drew ?_)); (with_reducible exact Below.refl _ _)))
      · first | (with_reducible exact QI) | exact Lib.hid (by repeat (first | (with_reducible exact QI.out) | (refine Below.drew ?_)))
  case rest =>
  generalize hww : wc = w7 at *
  clear hww
  obtain ⟨rfl, G11, Jw7⟩ := hcut
  have Dw7 : Hid (Below Wb.heap.size Wb w7) := Lib.hid (next0 Dw6.out Jw7.out)
  obtain ⟨p11, c11, rfl⟩ := (G11.out _ (Below.refl _ _)).form
  have T7 := Lib.hid (fun w' (q : Below w7.heap.size w7 w') => S7.out w' (next0 Jw7.out q))
  have T8 := Lib.hid (fun w' (q : Below w7.heap.size w7 w') => S8.out w' (next0 Jw7.out q))
  clear S7 S8 HC BW CB
  have HC := Lib.hid (fun w' (q : Below w7.heap.size w7 w') => CL.out w' (next0 Dw7.out q))
  have BW := Lib.hid (fun w' (q : Below w7.heap.size w7 w') => show Below Wb.heap.size Wb w' from next0 Dw7.out q)
  go_upto_region 6 with fail
  go_cut [13, 14] (fun s t wx => t = .int .i64 0 ∧ Hid (StN VC wx s) ∧ Hid (Below w7.heap.size w7 wx))
  case first =>
    have hq0 : Hid (Below w7.heap.size w7 w7.drew) := Lib.hid (Below.refl _ _).drew
    obtain ⟨y1, y2, y3, y4, y5, y6, y7, y8, y9, y10, y11, y12, y13, y14, y15⟩ := HC.out _ hq0.out
    go_region_held3 (fun w' => w'.cell? ⟨w.heap.size, 0, none⟩ = some (.slice h.gp n.gates.length h.gc) ∧ w'.cell? ⟨w.heap.size, 1, none⟩ = some (.slice h.rp n.roles.length h.rc) ∧ w'.cell? ⟨w.heap.size, 2, none⟩ = some (.slice h.bp n.bases.length h.bc) ∧ w'.cell? ⟨w.heap.size, 3, none⟩ = some (.slice h.ip n.inputs.length h.ic) ∧ w'.cell? ⟨w.heap.size, 4, none⟩ = some (.slice h.ap n.initial.length h.ac) ∧ w'.cell? ⟨w.heap.size, 5, none⟩ = some (.slice h.np n.next.length h.nc) ∧ w'.cell? ⟨w.heap.size, 6, none⟩ = some (.slice h.lp n.legal.length h.lc) ∧ w'.cell? ⟨w.heap.size, 7, none⟩ = some (.slice h.op n.goals.length h.oc) ∧ w'.cell? ⟨w.heap.size, 8, none⟩ = some (.slice h.sp n.sees.length h.sc) ∧ w'.cell? ⟨w.heap.size, 9, none⟩ = some (.int .i64 n.last) ∧ w'.cell? ⟨w.heap.size, 10, none⟩ = some (.bool n.hid) ∧ w'.cell? ⟨w.heap.size + 1, 0, none⟩ = some (.int .u64 (a : Int)) ∧ w'.cell? ⟨w.heap.size + 1, 1, none⟩ = some (.int .u64 (b : Int)) ∧ w'.cell? ⟨w.heap.size + 1 + 1, 0, none⟩ = some (.int .u64 (c : Int)) ∧ w'.cell? ⟨w.heap.size + 1 + 1, 1, none⟩ = some (.int .u64 (d : Int)))
      (first | (with_reducible assumption) | (with_reducible exact ⟨‹_›, ‹_›, ‹_›, ‹_›, ‹_›, ‹_›, ‹_›, ‹_›, ‹_›, ‹_›, ‹_›, ‹_›, ‹_›, ‹_›, ‹_›⟩) | (with_reducible refine HC.out _ ?_; repeat (first | (with_reducible exact Hid.out (by assumption)) | (with_reducible exact Below.refl _ _) | (with_reducible refine Below.drew ?_))))
      (first
        | (go_at_call 28; (try go_split_ands); (with_reducible refine (Hbc.out _ _ (T7.out _ (by repeat (first | (with_reducible exact Hid.out (by assumption)) | (with_reducible exact Below.refl _ _) | (with_reducible refine Below.drew ?_))))).mono ?_); rintro e wa ⟨ua, rfl, ra, qa⟩; have RA := Lib.hid (StN.of ra); obtain ⟨pa, ca, rfl⟩ := ra.form; have QA := Lib.hid qa; clear ra; (have QG : Hid (Below w7.heap.size w7 wa) := Lib.hid (by (refine next0 ?_ qa; repeat (first | (with_reducible exact Hid.out (by assumption)) | (with_reducible exact Below.refl _ _) | (with_reducible refine Below.drew ?_))))); clear qa; obtain ⟨y1, y2, y3, y4, y5, y6, y7, y8, y9, y10, y11, y12, y13, y14, y15⟩ := HC.out _ QG.out)
        | (go_at_call 28; (try go_split_ands); (with_reducible refine (Hid1.out _ _ (T8.out _ (by repeat (first | (with_reducible exact Hid.out (by assumption)) | (with_reducible exact Below.refl _ _) | (with_reducible refine Below.drew ?_))))).mono ?_); rintro e wb ⟨ub, rfl, rb, qb⟩; have RB := Lib.hid (StN.of rb); obtain ⟨pb, cb, rfl⟩ := rb.form; have QB := Lib.hid qb; clear rb; (have QH : Hid (Below w7.heap.size w7 wb) := Lib.hid (by (refine next0 ?_ qb; repeat (first | (with_reducible exact Hid.out (by assumption)) | (with_reducible exact Below.refl _ _) | (with_reducible refine Below.drew ?_))))); clear qb; obtain ⟨y1, y2, y3, y4, y5, y6, y7, y8, y9, y10, y11, y12, y13, y14, y15⟩ := HC.out _ QH.out)
        | (go_at_call 17; (try go_split_ands); refine (CC.out _ (BW.out _ (by repeat (first | (with_reducible exact Hid.out (by assumption)) | (with_reducible exact Below.refl _ _) | (with_reducible refine Below.drew ?_)))) _ _ (RA.out _ (by (repeat (with_reducible refine Below.drew ?_)); first | (with_reducible exact Below.refl _ _) | (first | (exact QB.out) | (refine undrew ?_; (first | (exact QB.out) | (refine undrew ?_; (first | (exact QB.out) | (refine undrew ?_; (first | (exact QB.out) | (refine undrew ?_; (first | (exact QB.out) | (refine undrew ?_; (first | (exact QB.out) | (refine undrew ?_; (first | (exact QB.out) | (refine undrew ?_; (first | (exact QB.out) | (refine undrew ?_; (first | (exact QB.out) | (refine undrew ?_; (first | (exact QB.out) | (refine undrew ?_; (first | (exact QB.out) | (refine undrew ?_; (first | (exact QB.out) | (refine undrew ?_; (first | (exact QB.out) | (refine undrew ?_; (first | (exact QB.out) | (refine undrew ?_; (first | (exact QB.out)))))))))))))))))))))))))))))))) (RB.out _ (by (repeat (with_reducible refine Below.drew ?_)); first | (with_reducible exact Below.refl _ _) | (first | (exact QA.out) | (refine undrew ?_; (first | (exact QA.out) | (refine undrew ?_; (first | (exact QA.out) | (refine undrew ?_; (first | (exact QA.out) | (refine undrew ?_; (first | (exact QA.out) | (refine undrew ?_; (first | (exact QA.out) | (refine undrew ?_; (first | (exact QA.out) | (refine undrew ?_; (first | (exact QA.out) | (refine undrew ?_; (first | (exact QA.out) | (refine undrew ?_; (first | (exact QA.out) | (refine undrew ?_; (first | (exact QA.out) | (refine undrew ?_; (first | (exact QA.out) | (refine undrew ?_; (first | (exact QA.out) | (refine undrew ?_; (first | (exact QA.out) | (refine undrew ?_; (first | (exact QA.out))))))))))))))))))))))))))))))))).mono ?_; rintro e wv ⟨uv, rfl, rv, qv⟩; have RV := Lib.hid (StN.of rv); clear rv; (have QI : Hid (Below w7.heap.size w7 wv) := Lib.hid (by (refine next0 ?_ qv; repeat (first | (with_reducible exact Hid.out (by assumption)) | (with_reducible exact Below.refl _ _) | (with_reducible refine Below.drew ?_))))); clear qv; obtain ⟨y1, y2, y3, y4, y5, y6, y7, y8, y9, y10, y11, y12, y13, y14, y15⟩ := HC.out _ QI.out))
    all_goals
      go_wp2_with fail
      go_meet
      refine ⟨rfl, ?_, ?_⟩
      · first | (with_reducible exact RV) | exact Lib.hid (StN.step RV.out (by (repeat (with_reducible refine Below.drew ?_)); (with_reducible exact Below.refl _ _)))
      · first | (with_reducible exact QI) | exact Lib.hid (by repeat (first | (with_reducible exact QI.out) | (refine Below.drew ?_)))
  case rest =>
  generalize hww : wc = w8 at *
  clear hww
  obtain ⟨rfl, G13, Jw8⟩ := hcut
  have Dw8 : Hid (Below Wb.heap.size Wb w8) := Lib.hid (next0 Dw7.out Jw8.out)
  obtain ⟨p13, c13, rfl⟩ := (G13.out _ (Below.refl _ _)).form
  have U7 := Lib.hid (fun w' (q : Below w8.heap.size w8 w') => T7.out w' (next0 Jw8.out q))
  have U8 := Lib.hid (fun w' (q : Below w8.heap.size w8 w') => T8.out w' (next0 Jw8.out q))
  clear T7 T8 HC BW CC Hbc Hid1
  have HC := Lib.hid (fun w' (q : Below w8.heap.size w8 w') => CL.out w' (next0 Dw8.out q))
  have BW := Lib.hid (fun w' (q : Below w8.heap.size w8 w') => show Below Wb.heap.size Wb w' from next0 Dw8.out q)
  go_upto_region 7 with fail
  go_cut [15, 16] (fun s t wx => t = .int .i64 0 ∧ Hid (StN VD wx s) ∧ Hid (Below w8.heap.size w8 wx))
  case first =>
    have hq0 : Hid (Below w8.heap.size w8 w8.drew) := Lib.hid (Below.refl _ _).drew
    obtain ⟨y1, y2, y3, y4, y5, y6, y7, y8, y9, y10, y11, y12, y13, y14, y15⟩ := HC.out _ hq0.out
    go_region_held3 (fun w' => w'.cell? ⟨w.heap.size, 0, none⟩ = some (.slice h.gp n.gates.length h.gc) ∧ w'.cell? ⟨w.heap.size, 1, none⟩ = some (.slice h.rp n.roles.length h.rc) ∧ w'.cell? ⟨w.heap.size, 2, none⟩ = some (.slice h.bp n.bases.length h.bc) ∧ w'.cell? ⟨w.heap.size, 3, none⟩ = some (.slice h.ip n.inputs.length h.ic) ∧ w'.cell? ⟨w.heap.size, 4, none⟩ = some (.slice h.ap n.initial.length h.ac) ∧ w'.cell? ⟨w.heap.size, 5, none⟩ = some (.slice h.np n.next.length h.nc) ∧ w'.cell? ⟨w.heap.size, 6, none⟩ = some (.slice h.lp n.legal.length h.lc) ∧ w'.cell? ⟨w.heap.size, 7, none⟩ = some (.slice h.op n.goals.length h.oc) ∧ w'.cell? ⟨w.heap.size, 8, none⟩ = some (.slice h.sp n.sees.length h.sc) ∧ w'.cell? ⟨w.heap.size, 9, none⟩ = some (.int .i64 n.last) ∧ w'.cell? ⟨w.heap.size, 10, none⟩ = some (.bool n.hid) ∧ w'.cell? ⟨w.heap.size + 1, 0, none⟩ = some (.int .u64 (a : Int)) ∧ w'.cell? ⟨w.heap.size + 1, 1, none⟩ = some (.int .u64 (b : Int)) ∧ w'.cell? ⟨w.heap.size + 1 + 1, 0, none⟩ = some (.int .u64 (c : Int)) ∧ w'.cell? ⟨w.heap.size + 1 + 1, 1, none⟩ = some (.int .u64 (d : Int)))
      (first | (with_reducible assumption) | (with_reducible exact ⟨‹_›, ‹_›, ‹_›, ‹_›, ‹_›, ‹_›, ‹_›, ‹_›, ‹_›, ‹_›, ‹_›, ‹_›, ‹_›, ‹_›, ‹_›⟩) | (with_reducible refine HC.out _ ?_; repeat (first | (with_reducible exact Hid.out (by assumption)) | (with_reducible exact Below.refl _ _) | (with_reducible refine Below.drew ?_))))
      (first
        | (go_at_call 28; (try go_split_ands); (with_reducible refine (Hbo.out _ _ (U7.out _ (by repeat (first | (with_reducible exact Hid.out (by assumption)) | (with_reducible exact Below.refl _ _) | (with_reducible refine Below.drew ?_))))).mono ?_); rintro e wa ⟨ua, rfl, ra, qa⟩; have RA := Lib.hid (StN.of ra); obtain ⟨pa, ca, rfl⟩ := ra.form; have QA := Lib.hid qa; clear ra; (have QG : Hid (Below w8.heap.size w8 wa) := Lib.hid (by (refine next0 ?_ qa; repeat (first | (with_reducible exact Hid.out (by assumption)) | (with_reducible exact Below.refl _ _) | (with_reducible refine Below.drew ?_))))); clear qa; obtain ⟨y1, y2, y3, y4, y5, y6, y7, y8, y9, y10, y11, y12, y13, y14, y15⟩ := HC.out _ QG.out)
        | (go_at_call 28; (try go_split_ands); (with_reducible refine (Hio.out _ _ (U8.out _ (by repeat (first | (with_reducible exact Hid.out (by assumption)) | (with_reducible exact Below.refl _ _) | (with_reducible refine Below.drew ?_))))).mono ?_); rintro e wb ⟨ub, rfl, rb, qb⟩; have RB := Lib.hid (StN.of rb); obtain ⟨pb, cb, rfl⟩ := rb.form; have QB := Lib.hid qb; clear rb; (have QH : Hid (Below w8.heap.size w8 wb) := Lib.hid (by (refine next0 ?_ qb; repeat (first | (with_reducible exact Hid.out (by assumption)) | (with_reducible exact Below.refl _ _) | (with_reducible refine Below.drew ?_))))); clear qb; obtain ⟨y1, y2, y3, y4, y5, y6, y7, y8, y9, y10, y11, y12, y13, y14, y15⟩ := HC.out _ QH.out)
        | (go_at_call 17; (try go_split_ands); refine (CD.out _ (BW.out _ (by repeat (first | (with_reducible exact Hid.out (by assumption)) | (with_reducible exact Below.refl _ _) | (with_reducible refine Below.drew ?_)))) _ _ (RA.out _ (by (repeat (with_reducible refine Below.drew ?_)); first | (with_reducible exact Below.refl _ _) | (first | (exact QB.out) | (refine undrew ?_; (first | (exact QB.out) | (refine undrew ?_; (first | (exact QB.out) | (refine undrew ?_; (first | (exact QB.out) | (refine undrew ?_; (first | (exact QB.out) | (refine undrew ?_; (first | (exact QB.out) | (refine undrew ?_; (first | (exact QB.out) | (refine undrew ?_; (first | (exact QB.out) | (refine undrew ?_; (first | (exact QB.out) | (refine undrew ?_; (first | (exact QB.out) | (refine undrew ?_; (first | (exact QB.out) | (refine undrew ?_; (first | (exact QB.out) | (refine undrew ?_; (first | (exact QB.out) | (refine undrew ?_; (first | (exact QB.out) | (refine undrew ?_; (first | (exact QB.out)))))))))))))))))))))))))))))))) (RB.out _ (by (repeat (with_reducible refine Below.drew ?_)); first | (with_reducible exact Below.refl _ _) | (first | (exact QA.out) | (refine undrew ?_; (first | (exact QA.out) | (refine undrew ?_; (first | (exact QA.out) | (refine undrew ?_; (first | (exact QA.out) | (refine undrew ?_; (first | (exact QA.out) | (refine undrew ?_; (first | (exact QA.out) | (refine undrew ?_; (first | (exact QA.out) | (refine undrew ?_; (first | (exact QA.out) | (refine undrew ?_; (first | (exact QA.out) | (refine undrew ?_; (first | (exact QA.out) | (refine undrew ?_; (first | (exact QA.out) | (refine undrew ?_; (first | (exact QA.out) | (refine undrew ?_; (first | (exact QA.out) | (refine undrew ?_; (first | (exact QA.out) | (refine undrew ?_; (first | (exact QA.out))))))))))))))))))))))))))))))))).mono ?_; rintro e wv ⟨uv, rfl, rv, qv⟩; have RV := Lib.hid (StN.of rv); clear rv; (have QI : Hid (Below w8.heap.size w8 wv) := Lib.hid (by (refine next0 ?_ qv; repeat (first | (with_reducible exact Hid.out (by assumption)) | (with_reducible exact Below.refl _ _) | (with_reducible refine Below.drew ?_))))); clear qv; obtain ⟨y1, y2, y3, y4, y5, y6, y7, y8, y9, y10, y11, y12, y13, y14, y15⟩ := HC.out _ QI.out))
    all_goals
      go_wp2_with fail
      go_meet
      refine ⟨rfl, ?_, ?_⟩
      · first | (with_reducible exact RV) | exact Lib.hid (StN.step RV.out (by (repeat (with_reducible refine Below.drew ?_)); (with_reducible exact Below.refl _ _)))
      · first | (with_reducible exact QI) | exact Lib.hid (by repeat (first | (with_reducible exact QI.out) | (refine Below.drew ?_)))
  case rest =>
  generalize hww : wc = w9 at *
  clear hww
  obtain ⟨rfl, G15, Jw9⟩ := hcut
  have Dw9 : Hid (Below Wb.heap.size Wb w9) := Lib.hid (next0 Dw8.out Jw9.out)
  obtain ⟨p15, c15, rfl⟩ := (G15.out _ (Below.refl _ _)).form
  clear U7 U8 HC BW CD Hbo Hio CL
  have X9 := Lib.hid (fun w' (q : Below w9.heap.size w9 w') => G9.out w' (next0 (next0 (next0 Jw7.out Jw8.out) Jw9.out) q))
  have X11 := Lib.hid (fun w' (q : Below w9.heap.size w9 w') => G11.out w' (next0 (next0 Jw8.out Jw9.out) q))
  have X13 := Lib.hid (fun w' (q : Below w9.heap.size w9 w') => G13.out w' (next0 Jw9.out q))
  have X15 := Lib.hid (fun w' (q : Below w9.heap.size w9 w') => G15.out w' q)
  clear G9 G11 G13 G15 G7 G8 Jw5 Jw6 Jw7 Jw8 Jw9
  have C1 := Lib.hid (alive_any w9 (TB.out w9 Dw9.out))
  go_wp2_with fail
  refine C1.out.mono ?_
  rintro e z1 ⟨rfl, g1⟩
  have E1 : Hid (Below w9.heap.size w9 z1) := Lib.hid (g1)
  have Dz1 : Hid (Below Wb.heap.size Wb z1) := Lib.hid (next0 Dw9.out g1)
  clear g1 C1
  have C2 := Lib.hid (ref_is R1.out z1 _ _ (X9.out _ E1.out) (X11.out _ E1.out))
  go_wp2_with fail
  refine C2.out.mono ?_
  rintro e z2 ⟨rfl, g2⟩
  have E2 : Hid (Below w9.heap.size w9 z2) := Lib.hid (next0 E1.out g2)
  have Dz2 : Hid (Below Wb.heap.size Wb z2) := Lib.hid (next0 Dz1.out g2)
  clear g2 C2
  have C3 := Lib.hid (ref_is R2.out z2 _ _ (X11.out _ E2.out) (X13.out _ E2.out))
  go_wp2_with fail
  refine C3.out.mono ?_
  rintro e z3 ⟨rfl, g3⟩
  have E3 : Hid (Below w9.heap.size w9 z3) := Lib.hid (next0 E2.out g3)
  have Dz3 : Hid (Below Wb.heap.size Wb z3) := Lib.hid (next0 Dz2.out g3)
  clear g3 C3
  have C4 := Lib.hid (ref_is R3.out z3 _ _ (X9.out _ E3.out) (X13.out _ E3.out))
  go_wp2_with fail
  refine C4.out.mono ?_
  rintro e z4 ⟨rfl, g4⟩
  have E4 : Hid (Below w9.heap.size w9 z4) := Lib.hid (next0 E3.out g4)
  have Dz4 : Hid (Below Wb.heap.size Wb z4) := Lib.hid (next0 Dz3.out g4)
  clear g4 C4
  have C5 := Lib.hid (ref_is R4.out z4 _ _ (X13.out _ E4.out) (X15.out _ E4.out))
  go_wp2_with fail
  refine C5.out.mono ?_
  rintro e z5 ⟨rfl, g5⟩
  have E5 : Hid (Below w9.heap.size w9 z5) := Lib.hid (next0 E4.out g5)
  have Dz5 : Hid (Below Wb.heap.size Wb z5) := Lib.hid (next0 Dz4.out g5)
  clear g5 C5
  have DF := Lib.hid (KW.out _ Dz5.out)
  go_wp2_with fail
  go_ret
  exact ⟨rfl, DF.out⟩
end NetTy
end Go.Proofs.YtedilgnnfmplgaaDoor
