/- The reference's Values: the values of all gates, or the error. Conditions: those of the reference's Check. Made by gnVr.py. -/
import Derived.Test.YtkfeliogglnngaaGreatGBD
import Derived.Test.YtkfeliogglnngaaGreatNetVv
import Derived.Test.YtkfeliogglnngaaGreatNetY
namespace Go.Proofs.YtkfeliogglnngaaGreat
open Go Go.RowKit
namespace NetVr
open Kit LexM TermM TermI TermH NetM NetN NetK NetA NetC NetI NetMk NetNu NetOk NetEv NetBo NetMb NetS NetVa NetVv NetRv
set_option maxRecDepth 100000 in
set_option maxHeartbeats 6400000 in
theorem rvalues_any (n : Nt) (h : Nh) (st ip : List Int) (B : Nat) (w : World) (vs vi : Value) (hB : B ≤ w.heap.size) (k : NetIn (· < B) w n h) (hz : SzN n) (hs : RowE KN (· < B) w st vs) (hi : RowE KN (· < B) w ip vi) :
    Calls Tryz.prog 59 #[.agg #[.slice h.gp n.gates.length h.gc, .slice h.rp n.roles.length h.rc, .slice h.bp n.bases.length h.bc, .slice h.ip n.inputs.length h.ic, .slice h.ap n.initial.length h.ac, .slice h.np n.next.length h.nc, .slice h.lp n.legal.length h.lc, .slice h.op n.goals.length h.oc, .slice h.sp n.sees.length h.sc, .int .i64 n.last, .bool n.hid], vs, vi] w (ValsE (evV groundB st ip n) (evE groundB st ip n) w) := by
  obtain ⟨i0, hi0, hi1, hi2, hi3⟩ := info_parts Tryz.infoB
  obtain ⟨W1, hW1⟩ : ∃ z, z = w.alloc (.cells #[.slice h.gp n.gates.length h.gc, .slice h.rp n.roles.length h.rc, .slice h.bp n.bases.length h.bc, .slice h.ip n.inputs.length h.ic, .slice h.ap n.initial.length h.ac, .slice h.np n.next.length h.nc, .slice h.lp n.legal.length h.lc, .slice h.op n.goals.length h.oc, .slice h.sp n.sees.length h.sc, .int .i64 n.last, .bool n.hid] 28) := ⟨_, rfl⟩
  have K1 : Hid (Below w.heap.size w W1) := Lib.hid (by rw [hW1]; exact below_alloc _ _)
  have H1 : Hid (Has W1 w.heap.size (netC n h)) := Lib.hid (by rw [hW1]; exact Has.new _ _ _)
  have hzz := K1.out.size
  have KW := Lib.hid (fun w' (q : Below W1.heap.size W1 w') => show Below w.heap.size w w' from K1.out.trans (q.mono hzz))
  have NK := Lib.hid (fun w' (q : Below W1.heap.size W1 w') => k.deep (KW.out w' q) hB)
  have HQ := Lib.hid (fun w' (q : Below W1.heap.size W1 w') => hasN (H1.out.step0 q))
  have hlen : n.gates.length ≤ maxLen := by obtain ⟨_, h1, h2⟩ := k.gates.cap; omega
  unfold maxLen at hlen
  have F13 : Hid (chkN groundB n ≠ 0 → evE groundB st ip n = 13 ∧ evV groundB st ip n = []) := Lib.hid (fun e => ⟨ev_net e, evv_no (by rw [ev_net e]; decide)⟩)
  have F14 : Hid (chkN groundB n = 0 → numsB st n.bases.length = false → evE groundB st ip n = 14 ∧ evV groundB st ip n = []) := Lib.hid (fun e e2 => ⟨ev_st e e2, evv_no (by rw [ev_st e e2]; decide)⟩)
  have F15 : Hid (chkN groundB n = 0 → numsB st n.bases.length = true → numsB ip n.inputs.length = false → evE groundB st ip n = 15 ∧ evV groundB st ip n = []) := Lib.hid (fun e e2 e3 => ⟨ev_ip e e2 e3, evv_no (by rw [ev_ip e e2 e3]; decide)⟩)
  have F0 : Hid (chkN groundB n = 0 → numsB st n.bases.length = true → numsB ip n.inputs.length = true → evE groundB st ip n = 0 ∧ evV groundB st ip n = valsN st ip n) := Lib.hid (fun e e2 e3 => ⟨ev_ok e e2 e3, evv_ok (ev_ok e e2 e3)⟩)
  have OKN : Hid (chkN groundB n = 0 → NOk n) := Lib.hid nok
  have RS := Lib.hid (fun w' (q : Below W1.heap.size W1 w') => hs.keep (w' := w') fun b o (hb : b < B) => (KW.out w' q).cell (p := ⟨b, o, none⟩) (Nat.lt_of_lt_of_le hb hB))
  have RI := Lib.hid (fun w' (q : Below W1.heap.size W1 w') => hi.keep (w' := w') fun b o (hb : b < B) => (KW.out w' q).cell (p := ⟨b, o, none⟩) (Nat.lt_of_lt_of_le hb hB))
  have CK := Lib.hid (fun w' (q : Below W1.heap.size W1 w') => NetY.rcheck_any n h B w' (Nat.le_trans hB (KW.out w' q).size) (NK.out w' q) hz.next hz.legal hz.goals hz.seen)
  have VS := Lib.hid (fun w' (q : Below W1.heap.size W1 w') => NetSu.rnums_any st n.bases.length B w' vs (Nat.le_trans hB (KW.out w' q).size) (RS.out w' q))
  have VI := Lib.hid (fun w' (q : Below W1.heap.size W1 w') => NetSu.rnums_any ip n.inputs.length B w' vi (Nat.le_trans hB (KW.out w' q).size) (RI.out w' q))
  have IS := Lib.hid (fun y w' (q : Below W1.heap.size W1 w') => NetIh.in_any st y B w' vs (Nat.le_trans hB (KW.out w' q).size) (RS.out w' q))
  have II := Lib.hid (fun y w' (q : Below W1.heap.size W1 w') => NetIh.in_any ip y B w' vi (Nat.le_trans hB (KW.out w' q).size) (RI.out w' q))
  have HB := Lib.hid hB
  obtain ⟨psl, csl, rfl⟩ := hs.form
  obtain ⟨pil, cil, rfl⟩ := hi.form
  clear k hz hs hi RS RI
  generalize evV groundB st ip n = S at *
  generalize evE groundB st ip n = er at *
  generalize chkN groundB n = c at *
  obtain ⟨q1, q2, q3, q4, q5, q6, q7, q8, q9, q10, q11⟩ := HQ.out W1 (Below.refl _ _)
  have C1 := Lib.hid (CK.out W1 (Below.refl _ _))
  clear CK
  go_enter Tryz.func59, Tryz.ntmps59
  go_upto_region 1 with fail
  rw [← hW1]
  clear hW1
  go_wp2_with fail
  refine C1.out.mono ?_
  rintro e w4 ⟨rfl, g4⟩
  have D4 := Lib.hid (next0 (Below.refl W1.heap.size W1) g4)
  have DD4 := Lib.hid (KW.out _ D4.out)
  clear g4 C1 q1 q2 q3 q4 q5 q6 q7 q8 q9 q10 q11
  obtain ⟨q1, q2, q3, q4, q5, q6, q7, q8, q9, q10, q11⟩ := HQ.out w4 D4.out
  by_cases hc : c = 0
  rotate_left
  · have e0 := Lib.hid (F13.out hc)
    have i1 : (c != 0) = true := by simp [hc]
    clear F13 F14 F15 F0 OKN hc
    go_wp2_with fail
    refine bodyPost_ret (v := .tuple #[.slice none 0 0, .int .i64 13]) (by simp [results, Tryz.results59, go_sem]) rfl ?_
    exact ValsE.no e0.out DD4.out
  have i1 : (c != 0) = false := by simp [hc]
  have F14a := Lib.hid (F14.out hc)
  have F15a := Lib.hid (F15.out hc)
  have F0a := Lib.hid (F0.out hc)
  have OKa := Lib.hid (OKN.out hc)
  clear F13 F14 F15 F0 OKN hc
  have V1 := Lib.hid (VS.out w4 D4.out)
  clear VS
  generalize numsB st n.bases.length = b1 at *
  go_wp2_with fail
  refine V1.out.mono ?_
  rintro e w5 ⟨rfl, g5⟩
  have D5 := Lib.hid (next0 D4.out g5)
  have DD5 := Lib.hid (KW.out _ D5.out)
  clear g5 V1 i1 q1 q2 q3 q4 q5 q6 q7 q8 q9 q10 q11
  obtain ⟨q1, q2, q3, q4, q5, q6, q7, q8, q9, q10, q11⟩ := HQ.out w5 D5.out
  cases b1
  · have e0 := Lib.hid (F14a.out rfl)
    clear F14a F15a F0a
    go_wp2_with fail
    refine bodyPost_ret (v := .tuple #[.slice none 0 0, .int .i64 14]) (by simp [results, Tryz.results59, go_sem]) rfl ?_
    exact ValsE.no e0.out DD5.out
  have F15b := Lib.hid (F15a.out rfl)
  have F0b := Lib.hid (F0a.out rfl)
  clear F14a F15a F0a
  have V2 := Lib.hid (VI.out w5 D5.out)
  clear VI
  generalize numsB ip n.inputs.length = b2 at *
  go_wp2_with fail
  refine V2.out.mono ?_
  rintro e wx ⟨rfl, g6⟩
  have D7 := Lib.hid (next0 D5.out g6)
  have DD7 := Lib.hid (KW.out _ D7.out)
  clear g6 V2 q1 q2 q3 q4 q5 q6 q7 q8 q9 q10 q11
  obtain ⟨q1, q2, q3, q4, q5, q6, q7, q8, q9, q10, q11⟩ := HQ.out wx D7.out
  cases b2
  · have e0 := Lib.hid (F15b.out rfl)
    clear F15b F0b
    go_wp2_with fail
    refine bodyPost_ret (v := .tuple #[.slice none 0 0, .int .i64 15]) (by simp [results, Tryz.results59, go_sem]) rfl ?_
    exact ValsE.no e0.out DD7.out
  have E0 := Lib.hid (F0b.out rfl)
  clear F15b F0b
  have SV : Hid (S = valsN st ip n) := Lib.hid E0.out.2
  have RV : Hid (er = 0) := Lib.hid E0.out.1
  have VAL := Lib.hid (vals_all st ip n)
  have hg16 : n.gates.length ≤ 16384 := OKa.out.few
  have GTS := Lib.hid (fun k g (hg : n.gates[k]? = some g) w' (q : Below wx.heap.size wx w') => show ∃ v b o, h.gp = some ⟨b, o, none⟩ ∧ w'.cell? ⟨b, o + k * 3, none⟩ = some (.int .i64 g.1) ∧ w'.cell? ⟨b, o + k * 3 + 1, none⟩ = some (.int .i64 g.2.1) ∧ w'.cell? ⟨b, o + k * 3 + 2, none⟩ = some v ∧ RowE KN (· < B) w' g.2.2 v from by
    obtain ⟨v, b, o, e1, _, e3, e4⟩ := (NK.out w' (next0 D7.out q)).gates.at hg
    exact ⟨v, b, o, e1, by have := e4 0 _ rfl; simpa [KG] using this, by have := e4 1 _ rfl; simpa [KG] using this, by have := e4 2 _ rfl; simpa [KG] using this, e3.1⟩)
  have hz7 := DD7.out.size
  have hzB : B ≤ wx.heap.size := Nat.le_trans HB.out hz7
  have NSo := Lib.hid (nil_own wx.heap.size wx 4 1)
  clear E0
  generalize hgm : n.gates.length = m at *
  have HM := Lib.hid hgm
  clear hgm
  generalize hg0 : wx.heap.size = g0 at *
  have HG0 := Lib.hid hg0
  clear hg0
  go_wp2_with fail
  clear q1 q2 q3 q4 q5 q6 q7 q8 q9 q10 q11
  go_loopw [8, 9] (fun u8 i wr => ∃ k : Nat, k ≤ m ∧ i = .int .i64 k ∧ Hid (wr.ownsRow g0 4 1 u8 k (boolV (valsTo st ip n.gates k))) ∧ Hid (Below g0 wx wr)) (fun _ i _ => m - (intOf i).toNat)
  case atStart => exact ⟨0, Nat.zero_le _, rfl, NSo, Lib.hid (Below.refl _ _)⟩
  case round =>
    obtain ⟨k, hk, rfl, hO, hD⟩ := hrel
    obtain ⟨va, vc, rfl⟩ := form1 hO.out
    have hzr := hD.out.size
    have hzg := HG0.out
    obtain ⟨q1, q2, q3, q4, q5, q6, q7, q8, q9, q10, q11⟩ := HQ.out wr (next0 D7.out (by rw [HG0.out]; exact hD.out))
    by_cases hlt : k < m
    · obtain ⟨⟨gk, gx, gl⟩, hg⟩ : ∃ g, n.gates[k]? = some g := ⟨n.gates[k]'(by rw [HM.out]; exact hlt), by simp⟩
      obtain ⟨v, b, o, egp, c0, c1, c2, rv⟩ := GTS.out k _ hg wr hD.out
      obtain ⟨p, c, rfl⟩ := rv.form
      have hnl : gl.length ≤ maxLen := by obtain ⟨_, h1, h2⟩ := rv.cap; exact Nat.le_trans h1 h2
      unfold maxLen at hnl
      have OKG := Lib.hid (OKa.out.gate k _ hg)
      have VL : Hid ((valsTo st ip n.gates k).length = k) := Lib.hid (vals_len _ _ _ (by rw [HM.out]; exact hk))
      have RVA := Lib.hid (rv_all st ip (valsTo st ip n.gates k) OKG.out)
      have VN := Lib.hid (vals_next st ip n.gates hg)
      have RX := Lib.hid (fun i x (hx : gl[i]? = some x) => rvl_next gk (valsTo st ip n.gates k) (rv3 st ip (gk, gx, gl)) gl hx)
      have RN : Hid (rvL gk (valsTo st ip n.gates k) (rv3 st ip (gk, gx, gl)) (gl.take gl.length) = gvN st ip (valsTo st ip n.gates k) (gk, gx, gl)) := Lib.hid (by rw [List.take_length]; exact RVA.out)
      have j0 : (0 : Int) ≤ (k : Int) := by omega
      have j1 : (k : Int) < m := by omega
      obtain ⟨W3, hW3⟩ : ∃ z, z = wr.alloc (.cells #[.int .i64 gk, .int .i64 gx, .slice p gl.length c] 67) := ⟨_, rfl⟩
      have J3 : Hid (Below wr.heap.size wr W3) := Lib.hid (by rw [hW3]; exact below_alloc _ _)
      have H3 : Hid (Has W3 wr.heap.size #[.int .i64 gk, .int .i64 gx, .slice p gl.length c]) := Lib.hid (by rw [hW3]; exact Has.new _ _ _)
      have D3 : Hid (Below g0 wx W3) := Lib.hid (hD.out.trans (J3.out.mono (by omega)))
      have IR := Lib.hid (readn rv (fun b (hb : b < B) => by omega))
      have IV := Lib.hid (readb (own_rowb (l := valsTo st ip n.gates k) (by rw [VL.out]; exact hO.out)) (fun b hb => hb.2))
      have y1 := H3.out.cell 0
      have y2 := H3.out.cell 1
      have y3 := H3.out.cell 2
      have KX := Lib.hid (fun w' (q : Below g0 wx w') => show Below W1.heap.size W1 w' from next0 D7.out (by rw [HG0.out]; exact q))
      have IS1 := Lib.hid (IS.out gx W3 (KX.out _ D3.out))
      have II1 := Lib.hid (fun w' q => II.out gx w' (KX.out w' q))
      clear hg rv RVA
      generalize hgl : gl.length = nl at *
      have HGL := Lib.hid hgl
      clear hgl hzr hzg
      go_upto_region 12 with fail
      rw [← hW3]
      clear hW3 c0 c1 c2 egp q1 q2 q3 q4 q5 q6 q7 q8 q9 q10 q11
      obtain ⟨b1, hb1⟩ : ∃ b1, rv1 (gk, gx, gl) = b1 := ⟨_, rfl⟩
      have HB1 := Lib.hid hb1
      clear hb1
      go_cut [11] (fun s wz => s = .bool b1 ∧ W3 = wz)
      case first =>
        by_cases k1 : gk = 1
        · have e0 : Hid (b1 = true) := Lib.hid (by rw [← HB1.out]; unfold rv1; simp [k1])
          have i1 : (gk == 1) = true := by simp [k1]
          clear k1
          go_wp2_with fail
          go_meet
          exact ⟨by rw [e0.out], by first | rfl | trivial⟩
        have i1 : (gk == 1) = false := by simp [k1]
        have e0 : Hid (b1 = (gk == 4)) := Lib.hid (by rw [← HB1.out]; unfold rv1; simp [k1])
        clear k1
        go_wp2_with fail
        go_meet
        exact ⟨by rw [e0.out], by first | rfl | trivial⟩
      case rest =>
      obtain ⟨rfl, rfl⟩ := hcut
      go_upto_if 51 with fail
      obtain ⟨b2, hb2⟩ : ∃ b2, rv2 st (gk, gx, gl) = b2 := ⟨_, rfl⟩
      have HB2 := Lib.hid hb2
      clear hb2
      go_cut [11] (fun s wz => s = .bool b2 ∧ Hid (Below W3.heap.size W3 wz))
      case first =>
        by_cases k2 : gk = 2
        · have e0 : Hid (b2 = decide (gx ∈ st)) := Lib.hid (by rw [← HB2.out]; unfold rv2; rw [if_pos k2])
          have i2 : (gk == 2) = true := by simp [k2]
          clear k2
          generalize decide (gx ∈ st) = bd at *
          go_wp2_with fail
          refine IS1.out.mono ?_
          rintro e w5 ⟨rfl, g5⟩
          have G5 := Lib.hid g5
          clear g5
          go_wp2_with fail
          go_meet
          exact ⟨by rw [e0.out], G5⟩
        have e0 : Hid (b2 = b1) := Lib.hid (by rw [← HB2.out, ← HB1.out]; unfold rv2; rw [if_neg k2])
        have i2 : (gk == 2) = false := by simp [k2]
        clear k2
        go_wp2_with fail
        go_meet
        exact ⟨by rw [e0.out], Lib.hid (Below.refl _ _)⟩
      case rest =>
      generalize hwy : wc = wy at *
      clear hwy
      obtain ⟨rfl, hqy⟩ := hcut
      clear IS1 y1 y2 y3
      have DY : Hid (Below g0 wx wy) := Lib.hid (D3.out.trans (hqy.out.mono (by have := D3.out.size; have := HG0.out; omega)))
      have y1 := (H3.out.step0 hqy.out).cell 0
      have y2 := (H3.out.step0 hqy.out).cell 1
      have y3 := (H3.out.step0 hqy.out).cell 2
      go_upto_if 58 with fail
      obtain ⟨b3, hb3⟩ : ∃ b3, rv3 st ip (gk, gx, gl) = b3 := ⟨_, rfl⟩
      have HB3 := Lib.hid hb3
      have II2 := Lib.hid (II1.out wy DY.out)
      rw [hb3] at RX RN
      clear hb3
      go_cut [11] (fun s wz => s = .bool b3 ∧ Hid (Below wy.heap.size wy wz))
      case first =>
        by_cases k3 : gk = 3
        · have e0 : Hid (b3 = decide (gx ∈ ip)) := Lib.hid (by rw [← HB3.out]; unfold rv3; rw [if_pos k3])
          have i2 : (gk == 3) = true := by simp [k3]
          clear k3
          generalize decide (gx ∈ ip) = bd at *
          go_wp2_with fail
          refine II2.out.mono ?_
          rintro e w5 ⟨rfl, g5⟩
          have G5 := Lib.hid g5
          clear g5
          go_wp2_with fail
          go_meet
          exact ⟨by rw [e0.out], G5⟩
        have e0 : Hid (b3 = b2) := Lib.hid (by rw [← HB3.out, ← HB2.out]; unfold rv3; rw [if_neg k3])
        have i2 : (gk == 3) = false := by simp [k3]
        clear k3
        go_wp2_with fail
        go_meet
        exact ⟨by rw [e0.out], Lib.hid (Below.refl _ _)⟩
      case rest =>
      generalize hwz : wc = wz at *
      clear hwz
      obtain ⟨rfl, hqz⟩ := hcut
      clear II1 II2 y1 y2 y3
      have J4 : Hid (Below W3.heap.size W3 wz) := Lib.hid (next0 hqy.out hqz.out)
      have JZ : Hid (Below wr.heap.size wr wz) := Lib.hid (next0 J3.out J4.out)
      have DZ : Hid (Below g0 wx wz) := Lib.hid (hD.out.trans (JZ.out.mono (by have := hD.out.size; have := HG0.out; omega)))
      have OZ := Lib.hid (own_below hO.out JZ.out)
      clear hqy hqz hO
      go_wp2_with fail
      generalize hww : wr = wo at *
      clear hww
      go_loopw [11, 12] (fun s i wq => ∃ (j : Nat) (v : Bool), j ≤ nl ∧ i = .int .i64 j ∧ s = .bool v ∧ Hid (v = rvL gk (valsTo st ip n.gates k) b3 (gl.take j)) ∧ Hid (Below wz.heap.size wz wq)) (fun _ i _ => nl - (intOf i).toNat)
      case atStart => exact ⟨0, b3, Nat.zero_le _, rfl, rfl, Lib.hid rfl, Lib.hid (Below.refl _ _)⟩
      case round =>
        generalize hww : wr = wq at *
        clear hww
        obtain ⟨j, v, hj, rfl, rfl, hV, hQ⟩ := hrel
        have y1 := ((H3.out.step0 J4.out).step0 hQ.out).cell 0
        have y2 := ((H3.out.step0 J4.out).step0 hQ.out).cell 1
        have y3 := ((H3.out.step0 J4.out).step0 hQ.out).cell 2
        by_cases hlj : j < nl
        · obtain ⟨x, hx⟩ : ∃ x, gl[j]? = some x := ⟨gl[j]'(by rw [HGL.out]; exact hlj), by simp⟩
          obtain ⟨g', o', rfl, z1⟩ := IR.out j x hx wq (next0 JZ.out hQ.out)
          have hxr := OKG.out.rd x (List.mem_of_getElem? hx)
          obtain ⟨t, rfl⟩ : ∃ t : Nat, x = (t : Int) := ⟨x.toNat, by omega⟩
          obtain ⟨bx, hbx⟩ : ∃ bx, (valsTo st ip n.gates k)[t]? = some bx := ⟨_, List.getElem?_eq_getElem (by rw [VL.out]; omega)⟩
          obtain ⟨g2, o2, rfl, z2⟩ := IV.out t bx hbx wq (next0 JZ.out hQ.out)
          have VX : Hid (vAt (valsTo st ip n.gates k) (t : Int) = bx) := Lib.hid (v_get (by rw [Int.toNat_natCast]; exact hbx))
          have R1 : Hid (rvL gk (valsTo st ip n.gates k) b3 (gl.take (j + 1)) = rvS gk v bx) := Lib.hid (by rw [RX.out j _ hx, VX.out, ← hV.out])
          have t0 : (0 : Int) ≤ (t : Int) := by omega
          have t1 : (t : Int) < k := hxr.2
          have t2 : (0 : Int) ≤ (j : Int) := by omega
          have t3 : (j : Int) < nl := by omega
          clear hx hbx hxr VX
          obtain ⟨v2, hv2⟩ : ∃ v2, rvS gk v bx = v2 := ⟨_, rfl⟩
          have V2 : Hid (v2 = rvL gk (valsTo st ip n.gates k) b3 (gl.take (j + 1))) := Lib.hid (by rw [R1.out, hv2])
          have HV2 := Lib.hid hv2
          clear hv2 R1
          by_cases k4 : gk = 4
          · have e0 : Hid (v2 = (v && bx)) := Lib.hid (by rw [← HV2.out]; unfold rvS; rw [if_pos k4])
            subst k4
            clear HV2
            cases v
            · have e1 : Hid (v2 = false) := Lib.hid (by rw [e0.out]; rfl)
              go_wp2_with fail
              go_roundw
              case rel => first | exact ⟨j + 1, v2, by omega, by go_num, by rw [e1.out], V2, hQ⟩ | ((repeat (apply Exists.intro)); refine ⟨?_, rfl⟩; exact ⟨j + 1, v2, by omega, by go_num, by rw [e1.out], V2, hQ⟩)
              case measure => simp [intOf] <;> omega
            · have e1 : Hid (v2 = bx) := Lib.hid (by rw [e0.out]; rfl)
              go_wp2_with fail
              go_roundw
              case rel => first | exact ⟨j + 1, v2, by omega, by go_num, by rw [e1.out], V2, hQ⟩ | ((repeat (apply Exists.intro)); refine ⟨?_, rfl⟩; exact ⟨j + 1, v2, by omega, by go_num, by rw [e1.out], V2, hQ⟩)
              case measure => simp [intOf] <;> omega
          have i4 : (gk == 4) = false := by simp [k4]
          by_cases k5 : gk = 5
          · have e0 : Hid (v2 = (v || bx)) := Lib.hid (by rw [← HV2.out]; unfold rvS; rw [if_neg k4, if_pos k5])
            subst k5
            clear HV2 k4 i4
            cases v
            · have e1 : Hid (v2 = bx) := Lib.hid (by rw [e0.out]; rfl)
              go_wp2_with fail
              go_roundw
              case rel => first | exact ⟨j + 1, v2, by omega, by go_num, by rw [e1.out], V2, hQ⟩ | ((repeat (apply Exists.intro)); refine ⟨?_, rfl⟩; exact ⟨j + 1, v2, by omega, by go_num, by rw [e1.out], V2, hQ⟩)
              case measure => simp [intOf] <;> omega
            · have e1 : Hid (v2 = true) := Lib.hid (by rw [e0.out]; rfl)
              go_wp2_with fail
              go_roundw
              case rel => first | exact ⟨j + 1, v2, by omega, by go_num, by rw [e1.out], V2, hQ⟩ | ((repeat (apply Exists.intro)); refine ⟨?_, rfl⟩; exact ⟨j + 1, v2, by omega, by go_num, by rw [e1.out], V2, hQ⟩)
              case measure => simp [intOf] <;> omega
          have i5 : (gk == 5) = false := by simp [k5]
          by_cases k6 : gk = 6
          · have e1 : Hid (v2 = !bx) := Lib.hid (by rw [← HV2.out]; unfold rvS; rw [if_neg k4, if_neg k5, if_pos k6])
            subst k6
            clear HV2 k4 i4 k5 i5
            go_wp2_with fail
            go_roundw
            case rel => first | exact ⟨j + 1, v2, by omega, by go_num, by rw [e1.out], V2, hQ⟩ | ((repeat (apply Exists.intro)); refine ⟨?_, rfl⟩; exact ⟨j + 1, v2, by omega, by go_num, by rw [e1.out], V2, hQ⟩)
            case measure => simp [intOf] <;> omega
          have i6 : (gk == 6) = false := by simp [k6]
          have e1 : Hid (v2 = v) := Lib.hid (by rw [← HV2.out]; unfold rvS; rw [if_neg k4, if_neg k5, if_neg k6])
          clear HV2 k4 k5 k6
          go_wp2_with fail
          go_roundw
          case rel => first | exact ⟨j + 1, v2, by omega, by go_num, by rw [e1.out], V2, hQ⟩ | ((repeat (apply Exists.intro)); refine ⟨?_, rfl⟩; exact ⟨j + 1, v2, by omega, by go_num, by rw [e1.out], V2, hQ⟩)
          case measure => simp [intOf] <;> omega
        · obtain rfl : j = nl := by omega
          have bve : Hid (v = gvN st ip (valsTo st ip n.gates k) (gk, gx, gl)) := Lib.hid (by rw [hV.out, RN.out])
          have DQ : Hid (Below g0 wx wq) := Lib.hid (DZ.out.trans (hQ.out.mono (by have := DZ.out.size; have := HG0.out; omega)))
          have OQ := Lib.hid (own_below OZ.out hQ.out)
          have hzq : g0 ≤ wq.heap.size := by have := DQ.out.size; have := HG0.out; omega
          generalize v = bv at *
          have PN : Hid (∀ (v' : Value) (w' : World), w'.ownsRow g0 4 1 v' (k + 1) (boolV (valsTo st ip n.gates k) ++ [.bool bv]) → w'.ownsRow g0 4 1 v' (k + 1) (boolV (valsTo st ip n.gates (k + 1)))) := Lib.hid (fun v' w' h => by
            rw [VN.out, ← bve.out, boolv_app]
            exact h)
          have AA1 : k + 1 ≤ maxLen := by unfold maxLen; omega
          have AA2 : (k + 1) * 1 ≤ 140737488355328 := by omega
          have AA3 : g0 ≤ (wq.alloc (.cells #[.bool bv] 4)).heap.size := by simp <;> omega
          clear RX RN OKG VL VN IR IV hV bve
          go_wp2_with (at_builtin; go_must (refine wpList_append_lies _ rfl _ _ 60 rfl g0 4 i0 (.bool false) 1 1 Tryz.underlying60 hi0 hi1 hi2 hi3 rfl (by decide) (.slice va k vc) k (boolV (valsTo st ip n.gates k)) rfl (OQ.out.alloc _) ⟨wq.heap.size, 0, none⟩ 1 1 [.bool bv] rfl rfl (World.news_of_block (heap_alloc_new wq _)) (one_bool bv) (by decide) AA1 AA2 AA3 (wq.heap.size + 1) (by simp) ?_; intro g6 c6 w6 hown6 hgrow6 hat6 hlt6; have O6 := Lib.hid (PN.out _ _ hown6); have D6 := Lib.hid ((DQ.out.alloc hzq (.cells #[.bool bv] 4)).grown hgrow6 (by simp <;> omega) (fun j hj => (OQ.out.lt j hj).1)); clear hown6 hgrow6 hat6 hlt6))
          go_roundw
          case rel => first | exact ⟨k + 1, by omega, by go_num, O6, D6⟩ | ((repeat (apply Exists.intro)); refine ⟨?_, rfl⟩; exact ⟨k + 1, by omega, by go_num, O6, D6⟩)
          case measure => simp [intOf] <;> omega
    · obtain rfl : k = m := by omega
      have R7 : Hid (RowE KB (fun b => w.heap.size ≤ b ∧ b < wr.heap.size) wr S (.slice va k vc)) := Lib.hid (by
        have hl := valsn_len st ip n
        rw [HM.out] at hl
        have h := hO.out
        rw [VAL.out] at h
        rw [SV.out]
        have h2 := (own_rowb (base := g0) (l := valsN st ip n) (v := .slice va k vc) (w := wr) (by rw [hl]; exact h))
        exact h2.wide fun b hb => ⟨by omega, hb.2⟩)
      have DF : Hid (Below w.heap.size w wr) := Lib.hid (KW.out _ (next0 D7.out (by rw [HG0.out]; exact hD.out)))
      clear hzr hzg
      go_wp2_with fail
      refine bodyPost_ret (v := .tuple #[.slice va k vc, .int .i64 0]) (by simp [results, Tryz.results59, go_sem]) rfl ?_
      rw [RV.out]
      exact ValsE.mk R7.out DF.out
end NetVr
end Go.Proofs.YtkfeliogglnngaaGreat
