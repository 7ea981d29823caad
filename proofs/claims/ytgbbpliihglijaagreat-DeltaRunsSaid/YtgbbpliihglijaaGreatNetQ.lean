/- The package's outputsValid. Conditions: terms of at most a million parts; at most a million outputs. Made by gnQ.py. -/
import Derived.Test.YtgbbpliihglijaaGreatGBD
import Derived.Test.YtgbbpliihglijaaGreatGAJ
namespace Go.Proofs.YtgbbpliihglijaaGreat
open Go Go.RowKit
namespace NetQ
open Kit LexM TermM TermI TermH NetM NetN NetK NetA NetB NetC NetP NetL
set_option maxRecDepth 100000 in
set_option maxHeartbeats 6400000 in
theorem outsv_any (n : Nt) (h : Nh) (B : Nat) (w : World) (hB : B ≤ w.heap.size) (k : NetIn (· < B) w n h) (hz : ∀ t ∈ n.sees, sizeT t.2.2.1 ≤ 1000000) (h1 : n.next.length ≤ 1000000) (h2 : n.legal.length ≤ 1000000) (h3 : n.goals.length ≤ 1000000) (h4 : n.sees.length ≤ 1000000) :
    Calls Tryz.prog 47 #[.agg #[.slice h.gp n.gates.length h.gc, .slice h.rp n.roles.length h.rc, .slice h.bp n.bases.length h.bc, .slice h.ip n.inputs.length h.ic, .slice h.ap n.initial.length h.ac, .slice h.np n.next.length h.nc, .slice h.lp n.legal.length h.lc, .slice h.op n.goals.length h.oc, .slice h.sp n.sees.length h.sc, .int .i64 n.last, .bool n.hid]] w fun e w' => e = .returned (.bool (outsC groundB n)) ∧ Below w.heap.size w w' := by
  have hmf : ∀ (fn : Fn) (first cap : Array Value) (w : World), (Instr.makeFunc fn first cap).run Tryz.prog w = .ok (.func fn first cap) w := fun _ _ _ _ => rfl
  obtain ⟨W1, hW1⟩ : ∃ z, z = w.alloc (.cells #[.slice h.gp n.gates.length h.gc, .slice h.rp n.roles.length h.rc, .slice h.bp n.bases.length h.bc, .slice h.ip n.inputs.length h.ic, .slice h.ap n.initial.length h.ac, .slice h.np n.next.length h.nc, .slice h.lp n.legal.length h.lc, .slice h.op n.goals.length h.oc, .slice h.sp n.sees.length h.sc, .int .i64 n.last, .bool n.hid] 28) := ⟨_, rfl⟩
  have K1 : Hid (Below w.heap.size w W1) := Lib.hid (by rw [hW1]; exact below_alloc _ _)
  have H1 : Hid (Has W1 w.heap.size (netC n h)) := Lib.hid (by rw [hW1]; exact Has.new _ _ _)
  have hzz := K1.out.size
  have KW := Lib.hid (fun w' (q : Below W1.heap.size W1 w') => show Below w.heap.size w w' from K1.out.trans (q.mono hzz))
  have NK := Lib.hid (fun w' (q : Below W1.heap.size W1 w') => k.deep (KW.out w' q) hB)
  have HQ := Lib.hid (fun w' (q : Below W1.heap.size W1 w') => hasN (H1.out.step0 q))
  have FT : Hid (∀ b1 b2 : Bool, (∀ j, j < n.goals.length → goalC n.roles.length (ouAt n.goals j) = true) → (∀ j, j < n.sees.length → seeC groundB n.roles.length (ouAt n.sees j) = true) → ordB cmpO n.goals ou0 = b1 → ordB cmpO n.sees ou0 = b2 → outsC groundB n = (b1 && (b2 && !((outs n).any fun x => !inB x n.gates.length)))) := Lib.hid (fun b1 b2 e e' e1 e2 => by
    unfold outsC
    rw [alln_true.2 e, alln_true.2 e', e1, e2, List.not_any_eq_all_not]
    simp)
  have FG : Hid (∀ j, j < n.goals.length → goalC n.roles.length (ouAt n.goals j) = false → outsC groundB n = false) := Lib.hid (fun j hj e => by unfold outsC; rw [alln_false hj e]; rfl)
  have FS : Hid (∀ j, j < n.sees.length → seeC groundB n.roles.length (ouAt n.sees j) = false → outsC groundB n = false) := Lib.hid (fun j hj e => by unfold outsC; rw [alln_false hj e, Bool.false_and, Bool.and_false])
  have AG := Lib.hid (fun w' (q : Below W1.heap.size W1 w') => ascoutput n.goals B w' _ (Nat.le_trans hB (KW.out w' q).size) (NK.out w' q).goals)
  have AS := Lib.hid (fun w' (q : Below W1.heap.size W1 w') => ascoutput n.sees B w' _ (Nat.le_trans hB (KW.out w' q).size) (NK.out w' q).sees)
  have AO := Lib.hid (fun w' (q : Below W1.heap.size W1 w') => NetJ.outs_any n h B w' (Nat.le_trans hB (KW.out w' q).size) (NK.out w' q) h1 h2 h3 h4)
  have CO := Lib.hid (fun B' w' v (hv : RowE KN (· < B') w' (outs n) v) hN => contains_any (outs n) w.heap.size n.gates.length h.gc B' h.gp w' v hv hN)
  have GA := Lib.hid (fun w' (q : Below W1.heap.size W1 w') j x (hx : n.sees[j]? = some x) sv (hs : SlIn (· < B) w' x.2.2.1.args sv) (hn : x.2.2.1.nm.size ≤ maxLen) => TermH.ground_any x.2.2.1 B w' sv (Nat.le_trans hB (KW.out w' q).size) hn hs (hz x (List.mem_of_getElem? hx)))
  have BE := Lib.hid (fun (r : Int) w' => below_any r n.roles.length w')
  have BV := Lib.hid (fun (r : Int) w' => below_any r 101 w')
  clear k hz h1 h2
  generalize hR : outsC groundB n = R at *
  clear hR
  obtain ⟨q1, q2, q3, q4, q5, q6, q7, q8, q9, q10, q11⟩ := HQ.out W1 (Below.refl _ _)
  generalize hgr : n.roles.length = nr at *
  generalize hgg : n.goals.length = mg at *
  generalize hgs : n.sees.length = ms at *
  have HG := Lib.hid hgg
  have HS := Lib.hid hgs
  clear hgr hgg hgs
  go_enter Tryz.func47, Tryz.ntmps47
  go_upto_region 1 with fail
  rw [← hW1]
  clear hW1
  go_wp2_with fail
  clear q1 q2 q3 q4 q5 q6 q7 q8 q9 q10 q11
  go_loopw [11] (fun i wr => ∃ k : Nat, k ≤ mg ∧ i = .int .i64 k ∧ Hid (∀ j, j < k → goalC nr (ouAt n.goals j) = true) ∧ Hid (Below W1.heap.size W1 wr)) (fun i _ => mg - (intOf i).toNat)
  case atStart => exact ⟨0, Nat.zero_le _, rfl, Lib.hid (fun j hj => by omega), Lib.hid (Below.refl _ _)⟩
  case round =>
    obtain ⟨k, hk, rfl, hT, hD⟩ := hrel
    obtain ⟨q1, q2, q3, q4, q5, q6, q7, q8, q9, q10, q11⟩ := HQ.out wr hD.out
    by_cases hlt : k < mg
    · obtain ⟨x, hx⟩ : ∃ x, n.goals[k]? = some x := ⟨n.goals[k]'(by rw [HG.out]; exact hlt), by simp⟩
      obtain ⟨vx, b, o, ep, hbB, ix, hcx⟩ := (NK.out wr hD.out).goals.at hx
      obtain ⟨q, d, ex⟩ : ∃ q d, vx = .slice q x.2.2.1.args.length d := ix.1.form
      subst ex
      have c0 : wr.cell? ⟨b, o + k * 5, none⟩ = some (.int .i64 x.1) := hcx 0 _ rfl
      have c1 : wr.cell? ⟨b, o + k * 5 + 1, none⟩ = some (.int .i64 x.2.1) := hcx 1 _ rfl
      have c2 : wr.cell? ⟨b, o + k * 5 + 2, none⟩ = some (.string x.2.2.1.nm) := hcx 2 _ rfl
      have c3 : wr.cell? ⟨b, o + k * 5 + 2 + 1, none⟩ = some (.slice q x.2.2.1.args.length d) := hcx 3 _ rfl
      have c4 : wr.cell? ⟨b, o + k * 5 + 4, none⟩ = some (.int .i64 x.2.2.2) := hcx 4 _ rfl
      obtain ⟨W3, hW3⟩ : ∃ z, z = wr.alloc (.cells #[.int .i64 x.1, .int .i64 x.2.1, .string x.2.2.1.nm, .slice q x.2.2.1.args.length d, .int .i64 x.2.2.2] 62) := ⟨_, rfl⟩
      have J3 : Hid (Below wr.heap.size wr W3) := Lib.hid (by rw [hW3]; exact below_alloc _ _)
      have H3 : Has W3 wr.heap.size #[.int .i64 x.1, .int .i64 x.2.1, .string x.2.2.1.nm, .slice q x.2.2.1.args.length d, .int .i64 x.2.2.2] := by rw [hW3]; exact Has.new _ _ _
      have y0 := H3.cell 0
      have y1 := H3.cell 1
      have y2 := H3.cell 2
      have y3 : W3.cell? ⟨wr.heap.size, 2 + 1, none⟩ = some (.slice q x.2.2.1.args.length d) := H3.cell 3
      have D3 := Lib.hid (next0 hD.out J3.out)
      have TX := Lib.hid (ou_get hx)
      have BX := Lib.hid (BE.out x.1 W3)
      obtain ⟨p1, p2, p3, p4, p5, p6, p7, p8, p9, p10, p11⟩ := HQ.out W3 D3.out
      have BW := Lib.hid (BV.out x.2.1 W3)
      have FF1 := Lib.hid (fun e => FG.out k hlt e)
      have GC : Hid (goalC nr (ouAt n.goals k) = (inB x.1 nr && (inB x.2.1 101 && (decide (x.2.2.1.nm = ⟨#[]⟩) && x.2.2.1.args.isEmpty)))) := Lib.hid (by rw [TX.out]; rfl)
      have AE : Hid (x.2.2.1.args.isEmpty = decide (x.2.2.1.args.length = 0)) := Lib.hid (by cases x.2.2.1.args <;> simp)
      rw [AE.out] at GC
      clear hx ix H3 hcx TX AE
      obtain ⟨G, hG⟩ : ∃ G, goalC nr (ouAt n.goals k) = G := ⟨_, rfl⟩
      rw [hG] at GC FF1
      have GG := Lib.hid hG
      clear hG
      generalize inB x.1 nr = rx at *
      generalize inB x.2.1 101 = rv at *
      generalize x.1 = xr at *
      generalize x.2.1 = xv at *
      generalize x.2.2.1.nm = xn at *
      generalize x.2.2.1.args.length = xa at *
      generalize x.2.2.2 = xg at *
      go_upto_region 4 with fail
      rw [← hW3]
      clear hW3 c0 c1 c2 c3 c4 ep
      have D := Lib.hid (KW.out _ D3.out)
      go_wp2_with fail
      refine BX.out.mono ?_
      rintro e w' ⟨rfl, rfl⟩
      cases rx
      · have e0 := Lib.hid (FF1.out (by rw [GC.out]; rfl))
        clear FF1
        go_wp2_with fail
        go_ret
        exact ⟨by rw [e0.out]; rfl, D.out⟩
      go_wp2_with fail
      refine BW.out.mono ?_
      rintro e w' ⟨rfl, rfl⟩
      cases rv
      · have e0 := Lib.hid (FF1.out (by rw [GC.out]; rfl))
        clear FF1
        go_wp2_with fail
        go_ret
        exact ⟨by rw [e0.out]; rfl, D.out⟩
      by_cases hn : xn = ⟨#[]⟩
      · subst hn
        by_cases ha : xa = 0
        · subst ha
          have GC9 : Hid (goalC nr (ouAt n.goals k) = true) := Lib.hid (by rw [GG.out, GC.out]; rfl)
          have T2 : Hid (∀ j, j < k + 1 → goalC nr (ouAt n.goals j) = true) := Lib.hid (fun j hj => by
            by_cases e : j = k
            · subst e
              exact GC9.out
            · exact hT.out j (by omega))
          clear q1 q2 q3 q4 q5 q6 q7 q8 q9 q10 q11 FF1
          go_wp2_with fail
          go_roundw
          case rel => exact ⟨k + 1, by omega, by go_num, T2, D3⟩
          case measure => simp [intOf]; omega
        · have ha' : (0 : Int) < (xa : Int) := by omega
          have e0 := Lib.hid (FF1.out (by rw [GC.out, decide_eq_false ha]; rfl))
          clear FF1
          go_wp2_with fail
          go_ret
          exact ⟨by rw [e0.out]; rfl, D.out⟩
      · have i1 : xn.toList.isEmpty = false := by rw [ByteArray.toList_eq]; cases hh : xn.data.toList with
          | nil => exact absurd (Go.WideShapes.bytes_inj (by simpa using hh)) hn
          | cons a r => rfl
        have e0 := Lib.hid (FF1.out (by rw [GC.out, decide_eq_false hn]; rfl))
        clear FF1 hn
        go_wp2_with fail
        go_ret
        exact ⟨by rw [e0.out]; rfl, D.out⟩
    · obtain rfl : k = mg := by omega
      have FT1 := Lib.hid (fun b1 b2 => FT.out b1 b2 hT.out)
      clear FT FG BV hlt
      go_wp2_with fail
      clear q1 q2 q3 q4 q5 q6 q7 q8 q9 q10 q11
      go_loopw [45] (fun i wr => ∃ k : Nat, k ≤ ms ∧ i = .int .i64 k ∧ Hid (∀ j, j < k → seeC groundB nr (ouAt n.sees j) = true) ∧ Hid (Below W1.heap.size W1 wr)) (fun i _ => ms - (intOf i).toNat)
      case atStart => exact ⟨0, Nat.zero_le _, rfl, Lib.hid (fun j hj => by omega), hD⟩
      case round =>
        clear hT hD
        obtain ⟨k, hk, rfl, hT, hD⟩ := hrel
        obtain ⟨q1, q2, q3, q4, q5, q6, q7, q8, q9, q10, q11⟩ := HQ.out wr hD.out
        by_cases hlt : k < ms
        · obtain ⟨x, hx⟩ : ∃ x, n.sees[k]? = some x := ⟨n.sees[k]'(by rw [HS.out]; exact hlt), by simp⟩
          obtain ⟨vx, b, o, ep, hbB, ix, hcx⟩ := (NK.out wr hD.out).sees.at hx
          obtain ⟨q, d, ex⟩ : ∃ q d, vx = .slice q x.2.2.1.args.length d := ix.1.form
          subst ex
          have c0 : wr.cell? ⟨b, o + k * 5, none⟩ = some (.int .i64 x.1) := hcx 0 _ rfl
          have c1 : wr.cell? ⟨b, o + k * 5 + 1, none⟩ = some (.int .i64 x.2.1) := hcx 1 _ rfl
          have c2 : wr.cell? ⟨b, o + k * 5 + 2, none⟩ = some (.string x.2.2.1.nm) := hcx 2 _ rfl
          have c3 : wr.cell? ⟨b, o + k * 5 + 2 + 1, none⟩ = some (.slice q x.2.2.1.args.length d) := hcx 3 _ rfl
          have c4 : wr.cell? ⟨b, o + k * 5 + 4, none⟩ = some (.int .i64 x.2.2.2) := hcx 4 _ rfl
          obtain ⟨W3, hW3⟩ : ∃ z, z = wr.alloc (.cells #[.int .i64 x.1, .int .i64 x.2.1, .string x.2.2.1.nm, .slice q x.2.2.1.args.length d, .int .i64 x.2.2.2] 62) := ⟨_, rfl⟩
          have J3 : Hid (Below wr.heap.size wr W3) := Lib.hid (by rw [hW3]; exact below_alloc _ _)
          have H3 : Has W3 wr.heap.size #[.int .i64 x.1, .int .i64 x.2.1, .string x.2.2.1.nm, .slice q x.2.2.1.args.length d, .int .i64 x.2.2.2] := by rw [hW3]; exact Has.new _ _ _
          have y0 := H3.cell 0
          have y1 := H3.cell 1
          have y2 := H3.cell 2
          have y3 : W3.cell? ⟨wr.heap.size, 2 + 1, none⟩ = some (.slice q x.2.2.1.args.length d) := H3.cell 3
          have D3 := Lib.hid (next0 hD.out J3.out)
          have TX := Lib.hid (ou_get hx)
          have BX := Lib.hid (BE.out x.1 W3)
          obtain ⟨p1, p2, p3, p4, p5, p6, p7, p8, p9, p10, p11⟩ := HQ.out W3 D3.out
          have G3 := Lib.hid (GA.out W3 D3.out k x hx (.slice q x.2.2.1.args.length d) (ix.1.frame fun b o (hb : b < B) => J3.out.cell (p := ⟨b, o, none⟩) (Nat.lt_of_lt_of_le hb (Nat.le_trans hB (KW.out wr hD.out).size))) ix.2.1)
          have FF1 := Lib.hid (fun e => FS.out k hlt e)
          have GC : Hid (seeC groundB nr (ouAt n.sees k) = (inB x.1 nr && (decide (x.2.1 = 0) && groundB x.2.2.1))) := Lib.hid (by rw [TX.out]; rfl)
          clear hx ix H3 hcx TX
          obtain ⟨G, hG⟩ : ∃ G, seeC groundB nr (ouAt n.sees k) = G := ⟨_, rfl⟩
          rw [hG] at GC FF1
          have GG := Lib.hid hG
          clear hG
          generalize groundB x.2.2.1 = gx at *
          generalize inB x.1 nr = rx at *
          generalize x.1 = xr at *
          generalize x.2.1 = xv at *
          generalize x.2.2.1.nm = xn at *
          generalize x.2.2.1.args.length = xa at *
          generalize x.2.2.2 = xg at *
          go_upto_region 10 with fail
          rw [← hW3]
          clear hW3 c0 c1 c2 c3 c4 ep
          have D := Lib.hid (KW.out _ D3.out)
          go_wp2_with fail
          refine BX.out.mono ?_
          rintro e w' ⟨rfl, rfl⟩
          cases rx
          · have e0 := Lib.hid (FF1.out (by rw [GC.out]; rfl))
            clear FF1
            go_wp2_with fail
            go_ret
            exact ⟨by rw [e0.out]; rfl, D.out⟩
          by_cases hv : xv = 0
          · have i1 : (xv != 0) = false := by simp [hv]
            have GC2 : Hid (G = gx) := Lib.hid (by rw [GC.out, decide_eq_true hv]; rfl)
            clear hv GC
            go_wp2_with fail
            refine G3.out.mono ?_
            rintro e w4 ⟨rfl, g4⟩
            have D4 := Lib.hid (next0 D3.out g4)
            clear g4
            cases gx
            · have e0 := Lib.hid (FF1.out GC2.out)
              have D' := Lib.hid (KW.out _ D4.out)
              clear FF1
              go_wp2_with fail
              go_ret
              exact ⟨by rw [e0.out]; rfl, D'.out⟩
            · have T2 : Hid (∀ j, j < k + 1 → seeC groundB nr (ouAt n.sees j) = true) := Lib.hid (fun j hj => by
                by_cases e : j = k
                · subst e
                  exact GG.out.trans GC2.out
                · exact hT.out j (by omega))
              clear q1 q2 q3 q4 q5 q6 q7 q8 q9 q10 q11 FF1
              go_wp2_with fail
              go_roundw
              case rel => exact ⟨k + 1, by omega, by go_num, T2, D4⟩
              case measure => simp [intOf]; omega
          · have i1 : (xv != 0) = true := by simp [hv]
            have e0 := Lib.hid (FF1.out (by rw [GC.out, decide_eq_false hv]; rfl))
            clear FF1 hv
            go_wp2_with fail
            go_ret
            exact ⟨by rw [e0.out]; rfl, D.out⟩
        · obtain rfl : k = ms := by omega
          have FT2 := Lib.hid (fun b1 b2 => FT1.out b1 b2 hT.out)
          clear FT1 FS GA BE
          have A1 := Lib.hid (AG.out wr hD.out)
          generalize ordB cmpO n.goals ou0 = b1 at *
          generalize ordB cmpO n.sees ou0 = b2 at *
          have FT3 := Lib.hid (FT2.out b1 b2 rfl rfl)
          clear FT2 AG
          go_wp2_with fail
          refine A1.out.mono ?_
          rintro e w4 ⟨rfl, g4⟩
          have D4 := Lib.hid (next0 hD.out g4)
          clear g4 A1 q1 q2 q3 q4 q5 q6 q7 q8 q9 q10 q11
          obtain ⟨q1, q2, q3, q4, q5, q6, q7, q8, q9, q10, q11⟩ := HQ.out w4 D4.out
          have DD4 := Lib.hid (KW.out _ D4.out)
          cases b1
          · go_wp2_with fail
            go_ret
            exact ⟨by rw [FT3.out]; rfl, DD4.out⟩
          have A2 := Lib.hid (AS.out w4 D4.out)
          clear AS
          go_wp2_with fail
          refine A2.out.mono ?_
          rintro e w5 ⟨rfl, g5⟩
          have D5 := Lib.hid (next0 D4.out g5)
          clear g5 A2 q1 q2 q3 q4 q5 q6 q7 q8 q9 q10 q11
          obtain ⟨q1, q2, q3, q4, q5, q6, q7, q8, q9, q10, q11⟩ := HQ.out w5 D5.out
          have DD5 := Lib.hid (KW.out _ D5.out)
          cases b2
          · go_wp2_with fail
            go_ret
            exact ⟨by rw [FT3.out]; rfl, DD5.out⟩
          have A3 := Lib.hid (AO.out w5 D5.out)
          clear AO
          go_wp2_with fail
          refine A3.out.mono ?_
          rintro e w6 ⟨v6, rfl, hr6, g6⟩
          have D6 := Lib.hid (next0 D5.out g6)
          have C6 := Lib.hid (CO.out w6.heap.size w6 v6 (hr6.wide fun b hb => hb.2) (HQ.out w6 D6.out).1)
          obtain ⟨p6, c6, rfl⟩ := hr6.form
          have DD6 := Lib.hid (KW.out _ D6.out)
          clear hr6 g6 CO A3
          generalize ((outs n).any fun x => !inB x n.gates.length) = an at *
          generalize (outs n).length = on at *
          go_wp2_with fail
          refine C6.out.mono ?_
          rintro e w7 ⟨rfl, rfl⟩
          go_wp2_with fail
          go_ret
          exact ⟨by rw [FT3.out]; rfl, DD6.out⟩
end NetQ
end Go.Proofs.YtgbbpliihglijaaGreat
