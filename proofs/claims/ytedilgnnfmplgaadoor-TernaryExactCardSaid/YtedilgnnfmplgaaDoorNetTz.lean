/- The reference's three-valued Values. Conditions: those of the reference's Check. Made by gnTz.py. -/
import Derived.Test.YtedilgnnfmplgaaDoorNetTv
import Derived.Test.YtedilgnnfmplgaaDoorNetY
namespace Go.Proofs.YtedilgnnfmplgaaDoor
open Go Go.RowKit
namespace NetTz
open Kit LexM TermM TermI TermH NetM NetN NetK NetA NetC NetI NetMk NetOk NetEv NetS NetTn NetTt NetTm
def rt1 (g : Gt) : Int := if g.1 = 1 ∨ g.1 = 4 then 1 else 0
def rt2 (bs : List Int) (g : Gt) : Int := if g.1 = 2 then tv (tAt bs g.2.1) else rt1 g
def rt3 (bs is : List Int) (g : Gt) : Int := if g.1 = 3 then tv (tAt is g.2.1) else rt2 bs g
theorem rt_init (bs is : List Int) (g : Gt) : rt3 bs is g = tinit bs is g := by
  unfold rt3 rt2 rt1 tinit
  by_cases h3 : g.1 = 3
  · rw [if_pos h3, if_neg (by omega), if_pos h3]
  · rw [if_neg h3]
    by_cases h2 : g.1 = 2
    · rw [if_pos h2, if_pos h2]
    · rw [if_neg h2, if_neg h2, if_neg h3]
set_option maxRecDepth 100000 in
set_option maxHeartbeats 6400000 in
theorem rvalues_any (n : Nt) (h : Nh) (bs is : List Int) (B : Nat) (w : World) (vs vi : Value) (hB : B ≤ w.heap.size) (k : NetIn (· < B) w n h) (hz : SzN n) (hs : RowE KN (· < B) w bs vs) (hi : RowE KN (· < B) w is vi) :
    Calls Tryd.prog 18 #[.agg #[.slice h.gp n.gates.length h.gc, .slice h.rp n.roles.length h.rc, .slice h.bp n.bases.length h.bc, .slice h.ip n.inputs.length h.ic, .slice h.ap n.initial.length h.ac, .slice h.np n.next.length h.nc, .slice h.lp n.legal.length h.lc, .slice h.op n.goals.length h.oc, .slice h.sp n.sees.length h.sc, .int .i64 n.last, .bool n.hid], vs, vi] w (IntE (tvV groundB bs is n) (tvE groundB bs is n) w) := by
  obtain ⟨i0, hi0, hi1, hi2, hi3⟩ := info_parts Tryd.infoN
  obtain ⟨W1, hW1⟩ : ∃ z, z = w.alloc (.cells #[.slice h.gp n.gates.length h.gc, .slice h.rp n.roles.length h.rc, .slice h.bp n.bases.length h.bc, .slice h.ip n.inputs.length h.ic, .slice h.ap n.initial.length h.ac, .slice h.np n.next.length h.nc, .slice h.lp n.legal.length h.lc, .slice h.op n.goals.length h.oc, .slice h.sp n.sees.length h.sc, .int .i64 n.last, .bool n.hid] 32) := ⟨_, rfl⟩
  have K1 : Hid (Below w.heap.size w W1) := Lib.hid (by rw [hW1]; exact below_alloc _ _)
  have H1 : Hid (Has W1 w.heap.size (netC n h)) := Lib.hid (by rw [hW1]; exact Has.new _ _ _)
  have hzz := K1.out.size
  have KW := Lib.hid (fun w' (q : Below W1.heap.size W1 w') => show Below w.heap.size w w' from K1.out.trans (q.mono hzz))
  have NK := Lib.hid (fun w' (q : Below W1.heap.size W1 w') => k.deep (KW.out w' q) hB)
  have HQ := Lib.hid (fun w' (q : Below W1.heap.size W1 w') => hasN (H1.out.step0 q))
  have hlen : n.gates.length ≤ maxLen := by obtain ⟨_, h1, h2⟩ := k.gates.cap; omega
  unfold maxLen at hlen
  have F13 : Hid (chkN groundB n ≠ 0 → tvE groundB bs is n = 13 ∧ tvV groundB bs is n = []) := Lib.hid (fun e => ⟨te_net e, tvv_no (te_net e)⟩)
  have F14 : Hid (chkN groundB n = 0 → bs.length ≠ n.bases.length → tvE groundB bs is n = 13 ∧ tvV groundB bs is n = []) := Lib.hid (fun e e2 => ⟨te_bs e e2, tvv_no (te_bs e e2)⟩)
  have F15 : Hid (chkN groundB n = 0 → bs.length = n.bases.length → is.length ≠ n.inputs.length → tvE groundB bs is n = 13 ∧ tvV groundB bs is n = []) := Lib.hid (fun e e2 e3 => ⟨te_is e e2 e3, tvv_no (te_is e e2 e3)⟩)
  have F0 : Hid (chkN groundB n = 0 → bs.length = n.bases.length → is.length = n.inputs.length → tvE groundB bs is n = 0 ∧ tvV groundB bs is n = tvalsN bs is n) := Lib.hid (fun e e2 e3 => ⟨te_ok e e2 e3, tvv_ok (te_ok e e2 e3)⟩)
  have OKN : Hid (chkN groundB n = 0 → NOk n) := Lib.hid nok
  have RS := Lib.hid (fun w' (q : Below W1.heap.size W1 w') => hs.keep (w' := w') fun b o (hb : b < B) => (KW.out w' q).cell (p := ⟨b, o, none⟩) (Nat.lt_of_lt_of_le hb hB))
  have RI := Lib.hid (fun w' (q : Below W1.heap.size W1 w') => hi.keep (w' := w') fun b o (hb : b < B) => (KW.out w' q).cell (p := ⟨b, o, none⟩) (Nat.lt_of_lt_of_le hb hB))
  have CK := Lib.hid (fun w' (q : Below W1.heap.size W1 w') => NetY.rcheck_any n h B w' (Nat.le_trans hB (KW.out w' q).size) (NK.out w' q) hz.next hz.legal hz.goals hz.seen)
  have HB := Lib.hid hB
  have VAL := Lib.hid (tvals_all bs is n)
  have VLN := Lib.hid (tvalsn_len bs is n)
  obtain ⟨psl, csl, rfl⟩ := hs.form
  obtain ⟨pil, cil, rfl⟩ := hi.form
  have IVS0 := Lib.hid (readn (RS.out W1 (Below.refl _ _)) (fun b (hb : b < B) => Nat.lt_of_lt_of_le (Nat.lt_of_lt_of_le hb hB) hzz))
  have IVI0 := Lib.hid (readn (RI.out W1 (Below.refl _ _)) (fun b (hb : b < B) => Nat.lt_of_lt_of_le (Nat.lt_of_lt_of_le hb hB) hzz))
  clear k hz hs hi RS RI
  generalize tvV groundB bs is n = S at *
  generalize tvE groundB bs is n = er at *
  generalize chkN groundB n = c at *
  generalize hbl : bs.length = lb at *
  generalize hil : is.length = li at *
  generalize hnb : n.bases.length = nb at *
  generalize hni : n.inputs.length = ni at *
  have HBL := Lib.hid hbl
  have HIL := Lib.hid hil
  have HNB := Lib.hid hnb
  have HNI := Lib.hid hni
  clear hbl hil hnb hni
  obtain ⟨q1, q2, q3, q4, q5, q6, q7, q8, q9, q10, q11⟩ := HQ.out W1 (Below.refl _ _)
  have C1 := Lib.hid (CK.out W1 (Below.refl _ _))
  clear CK
  go_enter Tryd.func18, Tryd.ntmps18
  go_upto_region 1 with fail
  rw [← hW1]
  clear hW1
  go_wp2_with fail
  refine C1.out.mono ?_
  rintro e wx ⟨rfl, g4⟩
  have D7 := Lib.hid (next0 (Below.refl W1.heap.size W1) g4)
  have DD7 := Lib.hid (KW.out _ D7.out)
  clear g4 C1 q1 q2 q3 q4 q5 q6 q7 q8 q9 q10 q11
  obtain ⟨q1, q2, q3, q4, q5, q6, q7, q8, q9, q10, q11⟩ := HQ.out wx D7.out
  by_cases hc : c = 0
  rotate_left
  · have e0 := Lib.hid (F13.out hc)
    have i1 : (c != 0) = true := by simp [hc]
    clear F13 F14 F15 F0 OKN hc
    go_wp2_with fail
    refine bodyPost_ret (v := .tuple #[.slice none 0 0, .int .i64 13]) (by simp [results, Tryd.results18, go_sem]) rfl ?_
    exact IntE.no e0.out DD7.out
  have i1 : (c != 0) = false := by simp [hc]
  have F14a := Lib.hid (F14.out hc)
  have F15a := Lib.hid (F15.out hc)
  have F0a := Lib.hid (F0.out hc)
  have OKa := Lib.hid (OKN.out hc)
  clear F13 F14 F15 F0 OKN hc
  by_cases h2 : lb = nb
  rotate_left
  · have e0 := Lib.hid (F14a.out h2)
    have i2 : ((lb : Int) != (nb : Int)) = true := by simp; omega
    clear F14a F15a F0a h2
    go_wp2_with fail
    refine bodyPost_ret (v := .tuple #[.slice none 0 0, .int .i64 13]) (by simp [results, Tryd.results18, go_sem]) rfl ?_
    exact IntE.no e0.out DD7.out
  have F15b := Lib.hid (F15a.out h2)
  have F0b := Lib.hid (F0a.out h2)
  subst h2
  clear F14a F15a F0a
  by_cases h3 : li = ni
  rotate_left
  · have e0 := Lib.hid (F15b.out h3)
    have i2 : ((li : Int) != (ni : Int)) = true := by simp; omega
    clear F15b F0b h3
    go_wp2_with fail
    refine bodyPost_ret (v := .tuple #[.slice none 0 0, .int .i64 13]) (by simp [results, Tryd.results18, go_sem]) rfl ?_
    exact IntE.no e0.out DD7.out
  have F0c := Lib.hid (F0b.out h3)
  subst h3
  clear F15b F0b
  have hg16 : n.gates.length ≤ 16384 := OKa.out.few
  have SV : Hid (S = tvalsN bs is n) := Lib.hid F0c.out.2
  have RV : Hid (er = 0) := Lib.hid F0c.out.1
  have GTS := Lib.hid (fun k g (hg : n.gates[k]? = some g) w' (q : Below wx.heap.size wx w') => show ∃ v b o, h.gp = some ⟨b, o, none⟩ ∧ w'.cell? ⟨b, o + k * 3, none⟩ = some (.int .i64 g.1) ∧ w'.cell? ⟨b, o + k * 3 + 1, none⟩ = some (.int .i64 g.2.1) ∧ w'.cell? ⟨b, o + k * 3 + 2, none⟩ = some v ∧ RowE KN (· < B) w' g.2.2 v from by
    obtain ⟨v, b, o, e1, _, e3, e4⟩ := (NK.out w' (next0 D7.out q)).gates.at hg
    exact ⟨v, b, o, e1, by have := e4 0 _ rfl; simpa [KG] using this, by have := e4 1 _ rfl; simpa [KG] using this, by have := e4 2 _ rfl; simpa [KG] using this, e3.1⟩)
  have IVS := Lib.hid (fun j x (hx : bs[j]? = some x) w' (q : Below wx.heap.size wx w') => IVS0.out j x hx w' (next0 D7.out q))
  have IVI := Lib.hid (fun j x (hx : is[j]? = some x) w' (q : Below wx.heap.size wx w') => IVI0.out j x hx w' (next0 D7.out q))
  have hz7 := DD7.out.size
  have hzB : B ≤ wx.heap.size := Nat.le_trans HB.out hz7
  have NSo := Lib.hid (nil_own wx.heap.size wx 3 1)
  clear F0c IVS0 IVI0 NK
  generalize hgm : n.gates.length = m at *
  have HM := Lib.hid hgm
  clear hgm
  generalize hg0 : wx.heap.size = g0 at *
  have HG0 := Lib.hid hg0
  clear hg0
  go_wp2_with fail
  clear q1 q2 q3 q4 q5 q6 q7 q8 q9 q10 q11
  go_loopw [8, 9] (fun u8 i wr => ∃ k : Nat, k ≤ m ∧ i = .int .i64 k ∧ Hid (wr.ownsRow g0 3 1 u8 k (numV (tvalsTo bs is n.gates k))) ∧ Hid (Below g0 wx wr)) (fun _ i _ => m - (intOf i).toNat)
  case atStart => exact ⟨0, Nat.zero_le _, rfl, NSo, Lib.hid (Below.refl _ _)⟩
  case round =>
    obtain ⟨k, hk, rfl, hO, hD⟩ := hrel
    obtain ⟨va, vc, rfl⟩ := form1 hO.out
    have hzr := hD.out.size
    have hzg := HG0.out
    obtain ⟨q1, q2, q3, q4, q5, q6, q7, q8, q9, q10, q11⟩ := HQ.out wr (next0 D7.out (by rw [HG0.out]; exact hD.out))
    by_cases hlt : k < m
    · obtain ⟨⟨gk, gx, gl⟩, hg⟩ : ∃ g, n.gates[k]? = some g := ⟨n.gates[k]'(by rw [HM.out]; exact hlt), by simp⟩
      obtain ⟨v, b, o, egp, c0, c1, c2, rv⟩ := GTS.out k _ hg wr hD.out
      obtain ⟨p, c, rfl⟩ := rv.form
      have hnl : gl.length ≤ maxLen := by obtain ⟨_, h1, h2⟩ := rv.cap; exact Nat.le_trans h1 h2
      unfold maxLen at hnl
      have OKG := Lib.hid (OKa.out.gate k _ hg)
      have VL : Hid ((tvalsTo bs is n.gates k).length = k) := Lib.hid (tvals_len _ _ _ (by rw [HM.out]; exact hk))
      have VT := Lib.hid (tto_t3 bs is n.gates k)
      have VN := Lib.hid (tvals_next bs is n.gates hg)
      have RX := Lib.hid (fun i x (hx : gl[i]? = some x) => tfold_next gk (tvalsTo bs is n.gates k) (rt3 bs is (gk, gx, gl)) gl hx)
      have RN : Hid (tfold gk (tvalsTo bs is n.gates k) (rt3 bs is (gk, gx, gl)) (gl.take gl.length) = tgN bs is (tvalsTo bs is n.gates k) (gk, gx, gl)) := Lib.hid (by rw [List.take_length, rt_init]; rfl)
      have j0 : (0 : Int) ≤ (k : Int) := by omega
      have j1 : (k : Int) < m := by omega
      obtain ⟨W3, hW3⟩ : ∃ z, z = wr.alloc (.cells #[.int .i64 gk, .int .i64 gx, .slice p gl.length c] 57) := ⟨_, rfl⟩
      have J3 : Hid (Below wr.heap.size wr W3) := Lib.hid (by rw [hW3]; exact below_alloc _ _)
      have H3 : Hid (Has W3 wr.heap.size #[.int .i64 gk, .int .i64 gx, .slice p gl.length c]) := Lib.hid (by rw [hW3]; exact Has.new _ _ _)
      have D3 : Hid (Below g0 wx W3) := Lib.hid (hD.out.trans (J3.out.mono (by omega)))
      have IR := Lib.hid (readn rv (fun b (hb : b < B) => by omega))
      have IV := Lib.hid (readn (own_row (l := tvalsTo bs is n.gates k) (by rw [VL.out]; exact hO.out) (fun x hx => t3_i64 (VT.out x hx))) (fun b hb => hb.2))
      have y1 := H3.out.cell 0
      have y2 := H3.out.cell 1
      have y3 := H3.out.cell 2
      clear hg rv VT
      generalize hgl : gl.length = nl at *
      have HGL := Lib.hid hgl
      clear hgl hzr hzg
      go_upto_region 9 with fail
      rw [← hW3]
      clear hW3 c0 c1 c2 egp q1 q2 q3 q4 q5 q6 q7 q8 q9 q10 q11
      obtain ⟨cn, hcn⟩ : ∃ cn : Bool, (gk == 1 || gk == 4) = cn := ⟨_, rfl⟩
      have HCN := Lib.hid hcn
      clear hcn
      go_cut [52] (fun s wz => s = .bool cn ∧ W3 = wz)
      case first =>
        by_cases k1 : gk = 1
        · have e0 : Hid (cn = true) := Lib.hid (by rw [← HCN.out]; simp [k1])
          have i1 : (gk == 1) = true := by simp [k1]
          clear k1
          go_wp2_with fail
          go_meet
          exact ⟨by rw [e0.out], by first | rfl | trivial⟩
        have i1 : (gk == 1) = false := by simp [k1]
        have e0 : Hid (cn = (gk == 4)) := Lib.hid (by rw [← HCN.out]; simp [k1])
        clear k1
        go_wp2_with fail
        go_meet
        exact ⟨by rw [e0.out], by first | rfl | trivial⟩
      case rest =>
      obtain ⟨rfl, rfl⟩ := hcut
      go_upto_if 52 with fail
      obtain ⟨b1, hb1⟩ : ∃ b1, rt1 (gk, gx, gl) = b1 := ⟨_, rfl⟩
      have HB1 := Lib.hid hb1
      clear hb1
      go_cut [11] (fun s wz => s = .int .i64 b1 ∧ W3 = wz)
      case first =>
        cases cn
        · have e0 : Hid (b1 = 0) := Lib.hid (by
            have h := HCN.out
            rw [Bool.or_eq_false_iff, beq_eq_false_iff_ne, beq_eq_false_iff_ne] at h
            rw [← HB1.out]
            unfold rt1
            rw [if_neg (fun c => c.elim h.1 h.2)])
          go_wp2_with fail
          go_meet
          exact ⟨by rw [e0.out], by first | rfl | trivial⟩
        · have e0 : Hid (b1 = 1) := Lib.hid (by
            have h := HCN.out
            rw [Bool.or_eq_true, beq_iff_eq, beq_iff_eq] at h
            rw [← HB1.out]
            unfold rt1
            rw [if_pos h])
          go_wp2_with fail
          go_meet
          exact ⟨by rw [e0.out], by first | rfl | trivial⟩
      case rest =>
      obtain ⟨rfl, rfl⟩ := hcut
      go_upto_if 55 with fail
      obtain ⟨b2, hb2⟩ : ∃ b2, rt2 bs (gk, gx, gl) = b2 := ⟨_, rfl⟩
      have HB2 := Lib.hid hb2
      clear hb2
      go_cut [11] (fun s wz => s = .int .i64 b2 ∧ W3 = wz)
      case first =>
        by_cases k2 : gk = 2
        · have hx0 : 0 ≤ gx := OKG.out.x0
          have hxm : gx < (lb : Int) := by have := OKG.out.xm; unfold mostIx at this; rw [if_pos k2] at this; have e := HNB.out; dsimp only at this; rw [e] at this; exact this
          obtain ⟨j, rfl⟩ : ∃ j : Nat, gx = (j : Int) := ⟨gx.toNat, by omega⟩
          obtain ⟨x, hx⟩ : ∃ x, bs[j]? = some x := ⟨bs[j]'(by have := HBL.out; omega), by simp⟩
          obtain ⟨g', o', rfl, z1⟩ := IVS.out j x hx W3 D3.out
          have e0 : Hid (b2 = tv x) := Lib.hid (by
            rw [← HB2.out]
            unfold rt2
            rw [if_pos k2]
            congr 1
            exact t_get (by rw [Int.toNat_natCast]; exact hx))
          have N1 := Lib.hid (rnot_any x W3)
          have N2 := Lib.hid (rnot_any (tnot x) W3)
          rw [tnot_two] at N2
          have i2 : (gk == 2) = true := by simp [k2]
          have t0 : (0 : Int) ≤ (j : Int) := by omega
          have t1 : (j : Int) < lb := hxm
          clear k2 hx hx0 hxm
          generalize tnot x = x2 at *
          generalize tv x = x3 at *
          go_wp2_with fail
          refine N1.out.mono ?_
          rintro e w5 ⟨rfl, rfl⟩
          go_wp2_with fail
          refine N2.out.mono ?_
          rintro e w5 ⟨rfl, rfl⟩
          go_wp2_with fail
          go_meet
          exact ⟨by rw [e0.out], by first | rfl | trivial⟩
        have e0 : Hid (b2 = b1) := Lib.hid (by rw [← HB2.out, ← HB1.out]; unfold rt2; rw [if_neg k2])
        have i2 : (gk == 2) = false := by simp [k2]
        clear k2
        go_wp2_with fail
        go_meet
        exact ⟨by rw [e0.out], by first | rfl | trivial⟩
      case rest =>
      obtain ⟨rfl, rfl⟩ := hcut
      go_upto_if 65 with fail
      obtain ⟨b3, hb3⟩ : ∃ b3, rt3 bs is (gk, gx, gl) = b3 := ⟨_, rfl⟩
      have HB3 := Lib.hid hb3
      rw [hb3] at RX RN
      clear hb3
      go_cut [11] (fun s wz => s = .int .i64 b3 ∧ W3 = wz)
      case first =>
        by_cases k3 : gk = 3
        · have hx0 : 0 ≤ gx := OKG.out.x0
          have hxm : gx < (li : Int) := by have := OKG.out.xm; unfold mostIx at this; rw [if_neg (by omega), if_pos k3] at this; have e := HNI.out; dsimp only at this; rw [e] at this; exact this
          obtain ⟨j, rfl⟩ : ∃ j : Nat, gx = (j : Int) := ⟨gx.toNat, by omega⟩
          obtain ⟨x, hx⟩ : ∃ x, is[j]? = some x := ⟨is[j]'(by have := HIL.out; omega), by simp⟩
          obtain ⟨g', o', rfl, z1⟩ := IVI.out j x hx W3 D3.out
          have e0 : Hid (b3 = tv x) := Lib.hid (by
            rw [← HB3.out]
            unfold rt3
            rw [if_pos k3]
            congr 1
            exact t_get (by rw [Int.toNat_natCast]; exact hx))
          have N1 := Lib.hid (rnot_any x W3)
          have N2 := Lib.hid (rnot_any (tnot x) W3)
          rw [tnot_two] at N2
          have i2 : (gk == 3) = true := by simp [k3]
          have t0 : (0 : Int) ≤ (j : Int) := by omega
          have t1 : (j : Int) < li := hxm
          clear k3 hx hx0 hxm
          generalize tnot x = x2 at *
          generalize tv x = x3 at *
          go_wp2_with fail
          refine N1.out.mono ?_
          rintro e w5 ⟨rfl, rfl⟩
          go_wp2_with fail
          refine N2.out.mono ?_
          rintro e w5 ⟨rfl, rfl⟩
          go_wp2_with fail
          go_meet
          exact ⟨by rw [e0.out], by first | rfl | trivial⟩
        have e0 : Hid (b3 = b2) := Lib.hid (by rw [← HB3.out, ← HB2.out]; unfold rt3; rw [if_neg k3])
        have i2 : (gk == 3) = false := by simp [k3]
        clear k3
        go_wp2_with fail
        go_meet
        exact ⟨by rw [e0.out], by first | rfl | trivial⟩
      case rest =>
      obtain ⟨rfl, rfl⟩ := hcut
      clear y1 y2 y3
      have OZ := Lib.hid (own_below hO.out J3.out)
      clear hO
      go_wp2_with fail
      generalize hww : wr = wo at *
      clear hww
      go_loopw [11, 12] (fun s i wq => ∃ (j : Nat) (v : Int), j ≤ nl ∧ i = .int .i64 j ∧ s = .int .i64 v ∧ Hid (v = tfold gk (tvalsTo bs is n.gates k) b3 (gl.take j)) ∧ Hid (Below W3.heap.size W3 wq)) (fun _ i _ => nl - (intOf i).toNat)
      case atStart => exact ⟨0, b3, Nat.zero_le _, rfl, rfl, Lib.hid rfl, Lib.hid (Below.refl _ _)⟩
      case round =>
        generalize hww : wr = wq at *
        clear hww
        obtain ⟨j, v, hj, rfl, rfl, hV, hQ⟩ := hrel
        have y1 := (H3.out.step0 hQ.out).cell 0
        have y2 := (H3.out.step0 hQ.out).cell 1
        have y3 := (H3.out.step0 hQ.out).cell 2
        by_cases hlj : j < nl
        · obtain ⟨x, hx⟩ : ∃ x, gl[j]? = some x := ⟨gl[j]'(by rw [HGL.out]; exact hlj), by simp⟩
          obtain ⟨g', o', rfl, z1⟩ := IR.out j x hx wq (next0 J3.out hQ.out)
          have hxr := OKG.out.rd x (List.mem_of_getElem? hx)
          obtain ⟨t, rfl⟩ : ∃ t : Nat, x = (t : Int) := ⟨x.toNat, by omega⟩
          obtain ⟨bx, hbx⟩ : ∃ bx, (tvalsTo bs is n.gates k)[t]? = some bx := ⟨_, List.getElem?_eq_getElem (by rw [VL.out]; omega)⟩
          obtain ⟨g2, o2, rfl, z2⟩ := IV.out t bx hbx wq (next0 J3.out hQ.out)
          have VX : Hid (tAt (tvalsTo bs is n.gates k) (t : Int) = bx) := Lib.hid (t_get (by rw [Int.toNat_natCast]; exact hbx))
          have R1 : Hid (tfold gk (tvalsTo bs is n.gates k) b3 (gl.take (j + 1)) = tstep gk v bx) := Lib.hid (by rw [RX.out j _ hx, VX.out, ← hV.out])
          have t0 : (0 : Int) ≤ (t : Int) := by omega
          have t1 : (t : Int) < k := hxr.2
          have t2 : (0 : Int) ≤ (j : Int) := by omega
          have t3 : (j : Int) < nl := by omega
          clear hx hbx hxr VX
          obtain ⟨v2, hv2⟩ : ∃ v2, tstep gk v bx = v2 := ⟨_, rfl⟩
          have V2 : Hid (v2 = tfold gk (tvalsTo bs is n.gates k) b3 (gl.take (j + 1))) := Lib.hid (by rw [R1.out, hv2])
          have HV2 := Lib.hid hv2
          clear hv2 R1
          by_cases k4 : gk = 4
          · have e0 : tand v bx = v2 := by rw [← HV2.out]; unfold tstep; rw [if_pos k4]
            have CA := Lib.hid (rand_any v bx wq)
            rw [e0] at CA
            subst k4
            clear HV2 e0
            go_wp2_with fail
            refine CA.out.mono ?_
            rintro e w5 ⟨rfl, rfl⟩
            go_wp2_with fail
            go_roundw
            case rel => first | exact ⟨j + 1, v2, by omega, by go_num, rfl, V2, hQ⟩ | ((repeat (apply Exists.intro)); refine ⟨?_, rfl⟩; exact ⟨j + 1, v2, by omega, by go_num, rfl, V2, hQ⟩)
            case measure => simp [intOf] <;> omega
          have i4 : (gk == 4) = false := by simp [k4]
          by_cases k5 : gk = 5
          · have e0 : tor v bx = v2 := by rw [← HV2.out]; unfold tstep; rw [if_neg k4, if_pos k5]
            have CA := Lib.hid (ror_any v bx wq)
            rw [e0] at CA
            subst k5
            clear HV2 e0 k4 i4
            go_wp2_with fail
            refine CA.out.mono ?_
            rintro e w5 ⟨rfl, rfl⟩
            go_wp2_with fail
            go_roundw
            case rel => first | exact ⟨j + 1, v2, by omega, by go_num, rfl, V2, hQ⟩ | ((repeat (apply Exists.intro)); refine ⟨?_, rfl⟩; exact ⟨j + 1, v2, by omega, by go_num, rfl, V2, hQ⟩)
            case measure => simp [intOf] <;> omega
          have i5 : (gk == 5) = false := by simp [k5]
          by_cases k6 : gk = 6
          · have e0 : tnot bx = v2 := by rw [← HV2.out]; unfold tstep; rw [if_neg k4, if_neg k5, if_pos k6]
            have CA := Lib.hid (rnot_any bx wq)
            rw [e0] at CA
            subst k6
            clear HV2 e0 k4 i4 k5 i5
            go_wp2_with fail
            refine CA.out.mono ?_
            rintro e w5 ⟨rfl, rfl⟩
            go_wp2_with fail
            go_roundw
            case rel => first | exact ⟨j + 1, v2, by omega, by go_num, rfl, V2, hQ⟩ | ((repeat (apply Exists.intro)); refine ⟨?_, rfl⟩; exact ⟨j + 1, v2, by omega, by go_num, rfl, V2, hQ⟩)
            case measure => simp [intOf] <;> omega
          have i6 : (gk == 6) = false := by simp [k6]
          have e1 : Hid (v2 = v) := Lib.hid (by rw [← HV2.out]; unfold tstep; rw [if_neg k4, if_neg k5, if_neg k6])
          clear HV2 k4 k5 k6
          go_wp2_with fail
          go_roundw
          case rel => first | exact ⟨j + 1, v2, by omega, by go_num, by rw [e1.out], V2, hQ⟩ | ((repeat (apply Exists.intro)); refine ⟨?_, rfl⟩; exact ⟨j + 1, v2, by omega, by go_num, by rw [e1.out], V2, hQ⟩)
          case measure => simp [intOf] <;> omega
        · obtain rfl : j = nl := by omega
          have bve : Hid (v = tgN bs is (tvalsTo bs is n.gates k) (gk, gx, gl)) := Lib.hid (by rw [hV.out, RN.out])
          have DQ : Hid (Below g0 wx wq) := Lib.hid (D3.out.trans (hQ.out.mono (by have := D3.out.size; have := HG0.out; omega)))
          have OQ := Lib.hid (own_below OZ.out hQ.out)
          have hzq : g0 ≤ wq.heap.size := by have := DQ.out.size; have := HG0.out; omega
          generalize v = bv at *
          have PN : Hid (∀ (v' : Value) (w' : World), w'.ownsRow g0 3 1 v' (k + 1) (numV (tvalsTo bs is n.gates k) ++ [.int .i64 bv]) → w'.ownsRow g0 3 1 v' (k + 1) (numV (tvalsTo bs is n.gates (k + 1)))) := Lib.hid (fun v' w' h => by
            rw [VN.out, ← bve.out, numv_app]
            exact h)
          have AA1 : k + 1 ≤ maxLen := by unfold maxLen; omega
          have AA2 : (k + 1) * 8 ≤ 140737488355328 := by omega
          have AA3 : g0 ≤ (wq.alloc (.cells #[.int .i64 bv] 3)).heap.size := by simp <;> omega
          clear RX RN OKG VL VN IR IV hV bve
          go_wp2_with (at_builtin; go_must (refine wpList_append_lies _ rfl _ _ 29 rfl g0 3 i0 (.int .i64 0) 1 8 Tryd.underlying29 hi0 hi1 hi2 hi3 rfl (by decide) (.slice va k vc) k (numV (tvalsTo bs is n.gates k)) rfl (OQ.out.alloc _) ⟨wq.heap.size, 0, none⟩ 1 1 [.int .i64 bv] rfl rfl (World.news_of_block (heap_alloc_new wq _)) (one_int bv) (by decide) AA1 AA2 AA3 (wq.heap.size + 1) (by simp) ?_; intro g6 c6 w6 hown6 hgrow6 hat6 hlt6; have O6 := Lib.hid (PN.out _ _ hown6); have D6 := Lib.hid ((DQ.out.alloc hzq (.cells #[.int .i64 bv] 3)).grown hgrow6 (by simp <;> omega) (fun j hj => (OQ.out.lt j hj).1)); clear hown6 hgrow6 hat6 hlt6))
          go_roundw
          case rel => first | exact ⟨k + 1, by omega, by go_num, O6, D6⟩ | ((repeat (apply Exists.intro)); refine ⟨?_, rfl⟩; exact ⟨k + 1, by omega, by go_num, O6, D6⟩)
          case measure => simp [intOf] <;> omega
    · obtain rfl : k = m := by omega
      have R7 : Hid (RowE KN (fun b => w.heap.size ≤ b ∧ b < wr.heap.size) wr S (.slice va k vc)) := Lib.hid (by
        have hl := VLN.out
        have h := hO.out
        have e := VAL.out
        rw [e] at h
        rw [SV.out]
        have h2 := (own_row (base := g0) (l := tvalsN bs is n) (v := .slice va k vc) (w := wr) (by rw [hl]; exact h) (fun x hx => t3_i64 (tvals_t3 bs is n x hx)))
        exact h2.wide fun b hb => ⟨by omega, hb.2⟩)
      have DF : Hid (Below w.heap.size w wr) := Lib.hid (KW.out _ (next0 D7.out (by rw [HG0.out]; exact hD.out)))
      clear hzr hzg
      go_wp2_with fail
      refine bodyPost_ret (v := .tuple #[.slice va k vc, .int .i64 0]) (by simp [results, Tryd.results18, go_sem]) rfl ?_
      rw [RV.out]
      exact IntE.mk R7.out DF.out
end NetTz
end Go.Proofs.YtedilgnnfmplgaaDoor
