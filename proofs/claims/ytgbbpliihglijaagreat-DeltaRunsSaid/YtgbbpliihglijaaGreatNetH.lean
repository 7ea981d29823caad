/- The package's movesValid. Condition: terms of at most a million parts. Made by gnH.py. -/
import Derived.Test.YtgbbpliihglijaaGreatGBE
import Derived.Test.YtgbbpliihglijaaGreatGAJ
namespace Go.Proofs.YtgbbpliihglijaaGreat
open Go Go.RowKit
namespace NetH
open Kit LexM TermM TermI TermH NetM NetN NetK NetA NetB NetC NetP
theorem ascinput (l : List Ip) (B : Nat) (w : World) (v : Value) (hB : B ≤ w.heap.size) (hl : LE KP (· < B) w l v) :
    Calls Tryz.prog 60 #[v, .func (.func 61) #[] #[]] w fun e w' => e = .returned (.bool (ordB cmpP l ip0)) ∧ Below w.heap.size w w' :=
  ascP_any cmpP l ip0 B w v hB hl fun _ x y qx dx qy dy w' _ _ q hx hy => NetD.cmpp_any x.1 y.1 x.2 y.2 B w' qx qy dx dy (Nat.le_trans hB q.size) hx.1 hy.1 hx.2.1 hy.2.1
set_option maxRecDepth 100000 in
set_option maxHeartbeats 6400000 in
theorem moves_any (n : Nt) (h : Nh) (B : Nat) (w : World) (hB : B ≤ w.heap.size) (k : NetIn (· < B) w n h) (hz : ∀ t ∈ n.inputs, sizeT t.2 ≤ 1000000) :
    Calls Tryz.prog 46 #[.agg #[.slice h.gp n.gates.length h.gc, .slice h.rp n.roles.length h.rc, .slice h.bp n.bases.length h.bc, .slice h.ip n.inputs.length h.ic, .slice h.ap n.initial.length h.ac, .slice h.np n.next.length h.nc, .slice h.lp n.legal.length h.lc, .slice h.op n.goals.length h.oc, .slice h.sp n.sees.length h.sc, .int .i64 n.last, .bool n.hid]] w fun e w' => e = .returned (.bool (movesC groundB n)) ∧ Below w.heap.size w w' := by
  obtain ⟨W1, hW1⟩ : ∃ z, z = w.alloc (.cells #[.slice h.gp n.gates.length h.gc, .slice h.rp n.roles.length h.rc, .slice h.bp n.bases.length h.bc, .slice h.ip n.inputs.length h.ic, .slice h.ap n.initial.length h.ac, .slice h.np n.next.length h.nc, .slice h.lp n.legal.length h.lc, .slice h.op n.goals.length h.oc, .slice h.sp n.sees.length h.sc, .int .i64 n.last, .bool n.hid] 28) := ⟨_, rfl⟩
  have K1 : Hid (Below w.heap.size w W1) := Lib.hid (by rw [hW1]; exact below_alloc _ _)
  have H1 : Hid (Has W1 w.heap.size (netC n h)) := Lib.hid (by rw [hW1]; exact Has.new _ _ _)
  have hzz := K1.out.size
  have KW := Lib.hid (fun w' (q : Below W1.heap.size W1 w') => show Below w.heap.size w w' from K1.out.trans (q.mono hzz))
  have NK := Lib.hid (fun w' (q : Below W1.heap.size W1 w') => k.deep (KW.out w' q) hB)
  have HQ := Lib.hid (fun w' (q : Below W1.heap.size W1 w') => hasN (H1.out.step0 q))
  have hm : n.inputs.length ≤ maxLen := by obtain ⟨_, h1, h2⟩ := k.inputs.cap; omega
  unfold maxLen at hm
  have FT : Hid (∀ b1 : Bool, (∀ j, j < n.inputs.length → inB (ipAt n.inputs j).1 n.roles.length = true ∧ groundB (ipAt n.inputs j).2 = true) → ordB cmpP n.inputs ip0 = b1 → movesC groundB n = (b1 && decide (n.legal.length = n.inputs.length))) := Lib.hid (fun b1 e e1 => by unfold movesC; rw [alln_true.2 (fun j hj => by rw [(e j hj).1, (e j hj).2]; rfl), e1]; rfl)
  have FF : Hid (∀ j, j < n.inputs.length → (inB (ipAt n.inputs j).1 n.roles.length && groundB (ipAt n.inputs j).2) = false → movesC groundB n = false) := Lib.hid (fun j hj e => by unfold movesC; rw [alln_false hj e]; rfl)
  have AT := Lib.hid (fun w' (q : Below W1.heap.size W1 w') => ascinput n.inputs B w' _ (Nat.le_trans hB (KW.out w' q).size) (NK.out w' q).inputs)
  have GA := Lib.hid (fun w' (q : Below W1.heap.size W1 w') j x (hx : n.inputs[j]? = some x) sv (hs : SlIn (· < B) w' x.2.args sv) (hn : x.2.nm.size ≤ maxLen) => TermH.ground_any x.2 B w' sv (Nat.le_trans hB (KW.out w' q).size) hn hs (hz x (List.mem_of_getElem? hx)))
  have BE := Lib.hid (fun (r : Int) w' => below_any r n.roles.length w')
  clear k hz
  generalize movesC groundB n = R at *
  obtain ⟨q1, q2, q3, q4, q5, q6, q7, q8, q9, q10, q11⟩ := HQ.out W1 (Below.refl _ _)
  generalize hgn : n.legal.length = nn at *
  generalize hgr : n.roles.length = nr at *
  generalize hb : n.inputs.length = m at *
  have HM := Lib.hid hb
  clear hb hgn hgr
  go_enter Tryz.func46, Tryz.ntmps46
  go_upto_region 1 with fail
  rw [← hW1]
  clear hW1
  go_wp2_with fail
  clear q1 q2 q3 q4 q5 q6 q7 q8 q9 q10 q11
  go_loopw [8] (fun i wr => ∃ k : Nat, k ≤ m ∧ i = .int .i64 k ∧ Hid (∀ j, j < k → inB (ipAt n.inputs j).1 nr = true ∧ groundB (ipAt n.inputs j).2 = true) ∧ Hid (Below W1.heap.size W1 wr)) (fun i _ => m - (intOf i).toNat)
  case atStart => exact ⟨0, Nat.zero_le _, rfl, Lib.hid (fun j hj => by omega), Lib.hid (Below.refl _ _)⟩
  case round =>
    obtain ⟨k, hk, rfl, hT, hD⟩ := hrel
    obtain ⟨q1, q2, q3, q4, q5, q6, q7, q8, q9, q10, q11⟩ := HQ.out wr hD.out
    by_cases hlt : k < m
    · obtain ⟨x, hx⟩ : ∃ x, n.inputs[k]? = some x := ⟨n.inputs[k]'(by rw [HM.out]; exact hlt), by simp⟩
      obtain ⟨vx, b, o, ep, hbB, ix, hcx⟩ := (NK.out wr hD.out).inputs.at hx
      obtain ⟨q, d, ex⟩ : ∃ q d, vx = .slice q x.2.args.length d := ix.1.form
      subst ex
      have c0 : wr.cell? ⟨b, o + k * 3, none⟩ = some (.int .i64 x.1) := hcx 0 _ rfl
      have c1 : wr.cell? ⟨b, o + k * 3 + 1, none⟩ = some (.string x.2.nm) := hcx 1 _ rfl
      have c2 : wr.cell? ⟨b, o + k * 3 + 1 + 1, none⟩ = some (.slice q x.2.args.length d) := hcx 2 _ rfl
      have G3 := Lib.hid (fun w' (g : Below wr.heap.size wr w') => GA.out w' (next0 hD.out g) k x hx (.slice q x.2.args.length d) (ix.1.frame fun b o (hb : b < B) => g.cell (p := ⟨b, o, none⟩) (Nat.lt_of_lt_of_le hb (Nat.le_trans hB (KW.out wr hD.out).size))) ix.2.1)
      obtain ⟨W3, hW3⟩ : ∃ z, z = wr.alloc (.cells #[.int .i64 x.1, .string x.2.nm, .slice q x.2.args.length d] 60) := ⟨_, rfl⟩
      have J3 : Hid (Below wr.heap.size wr W3) := Lib.hid (by rw [hW3]; exact below_alloc _ _)
      have H3 : Has W3 wr.heap.size #[.int .i64 x.1, .string x.2.nm, .slice q x.2.args.length d] := by rw [hW3]; exact Has.new _ _ _
      have y0 := H3.cell 0
      have y1 := H3.cell 1
      have y2 : W3.cell? ⟨wr.heap.size, 1 + 1, none⟩ = some (.slice q x.2.args.length d) := H3.cell 2
      have G4 := Lib.hid (G3.out W3 J3.out)
      have D3 := Lib.hid (next0 hD.out J3.out)
      have TX := Lib.hid (ip_get hx)
      have BX := Lib.hid (BE.out x.1 W3)
      have FF1 := Lib.hid (fun e => FF.out k hlt e)
      rw [TX.out] at FF1
      obtain ⟨p1, p2, p3, p4, p5, p6, p7, p8, p9, p10, p11⟩ := HQ.out W3 D3.out
      clear hx ix G3 H3 hcx
      generalize hgx : groundB x.2 = gx at *
      have GX := Lib.hid (show groundB (ipAt n.inputs k).2 = gx by rw [TX.out]; exact hgx)
      generalize hrx : inB x.1 nr = rx at *
      have RX := Lib.hid (show inB (ipAt n.inputs k).1 nr = rx by rw [TX.out]; exact hrx)
      clear hgx hrx
      generalize x.1 = xr at *
      generalize x.2.nm = xn at *
      generalize x.2.args.length = xa at *
      go_upto_region 4 with fail
      rw [← hW3]
      clear hW3 c0 c1 c2 ep
      go_wp2_with fail
      refine BX.out.mono ?_
      rintro e w' ⟨rfl, rfl⟩
      cases rx
      · have e0 := Lib.hid (FF1.out rfl)
        have D := Lib.hid (KW.out _ D3.out)
        clear FF1
        go_wp2_with fail
        go_ret
        exact ⟨by rw [e0.out]; rfl, D.out⟩
      go_wp2_with fail
      refine G4.out.mono ?_
      rintro e w4 ⟨rfl, g4⟩
      have D4 := Lib.hid (next0 D3.out g4)
      clear g4 y0 y1 y2
      cases gx
      · have e0 := Lib.hid (FF1.out rfl)
        have D := Lib.hid (KW.out _ D4.out)
        clear FF1
        go_wp2_with fail
        go_ret
        exact ⟨by rw [e0.out]; rfl, D.out⟩
      · have T2 : Hid (∀ j, j < k + 1 → inB (ipAt n.inputs j).1 nr = true ∧ groundB (ipAt n.inputs j).2 = true) := Lib.hid (fun j hj => by
          by_cases e : j = k
          · subst e
            exact ⟨RX.out, GX.out⟩
          · exact hT.out j (by omega))
        clear q1 q2 q3 q4 q5 q6 q7 q8 q9 q10 q11 FF1
        go_wp2_with fail
        go_roundw
        case rel => exact ⟨k + 1, by omega, by go_num, T2, D4⟩
        case measure => simp [intOf]; omega
    · obtain rfl : k = m := by omega
      have A1 := Lib.hid (AT.out wr hD.out)
      have FT1 := Lib.hid (fun b1 => FT.out b1 hT.out)
      clear FT FF GA
      generalize ordB cmpP n.inputs ip0 = b1 at *
      have FT2 := Lib.hid (FT1.out b1 rfl)
      clear FT1
      go_wp2_with fail
      refine A1.out.mono ?_
      rintro e w4 ⟨rfl, g4⟩
      have D4 := Lib.hid (next0 hD.out g4)
      clear g4 q1 q2 q3 q4 q5 q6 q7 q8 q9 q10 q11
      obtain ⟨q1, q2, q3, q4, q5, q6, q7, q8, q9, q10, q11⟩ := HQ.out w4 D4.out
      have D := Lib.hid (KW.out _ D4.out)
      cases b1
      · go_wp2_with fail
        go_ret
        exact ⟨by rw [FT2.out]; rfl, D.out⟩
      have e9 : decide (nn = k) = ((nn : Int) == (k : Int)) := by rw [Bool.eq_iff_iff, decide_eq_true_eq, beq_iff_eq]; omega
      have FT3 : Hid (R = ((nn : Int) == (k : Int))) := Lib.hid (by rw [FT2.out, ← e9]; rfl)
      clear e9
      go_wp2_with fail
      go_ret
      exact ⟨by rw [FT3.out]; rfl, D.out⟩
end NetH
end Go.Proofs.YtgbbpliihglijaaGreat
