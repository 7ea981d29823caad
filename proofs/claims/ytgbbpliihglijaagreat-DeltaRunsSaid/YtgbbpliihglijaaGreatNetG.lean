/- The package's factsValid. Condition: terms of at most a million parts. Made by gnG.py. -/
import Derived.Test.YtgbbpliihglijaaGreatGBE
import Derived.Test.YtgbbpliihglijaaGreatGAD
import Derived.Test.YtgbbpliihglijaaGreatGAJ
namespace Go.Proofs.YtgbbpliihglijaaGreat
open Go Go.RowKit
namespace NetG
open Kit LexM TermM TermI TermH NetM NetN NetK NetA NetB NetC NetP
theorem ascterm (l : List Tm) (B : Nat) (w : World) (v : Value) (hB : B ≤ w.heap.size) (hl : SlIn (· < B) w l v) :
    Calls Tryz.prog 58 #[v, .func (.func 59) #[] #[]] w fun e w' => e = .returned (.bool (ordB cmpT l tm0)) ∧ Below w.heap.size w w' :=
  ascT_any cmpT l tm0 B w v hB hl fun _ x y _ _ _ _ w' _ _ q hx hy nx ny => (TermR.cmp_any x B w' _ y _ (Nat.le_trans hB q.size) nx ny hx hy).mono fun _ _ h => ⟨h.1, h.2.1⟩
set_option maxRecDepth 100000 in
set_option maxHeartbeats 6400000 in
theorem facts_any (n : Nt) (h : Nh) (B : Nat) (w : World) (hB : B ≤ w.heap.size) (k : NetIn (· < B) w n h) (hz : ∀ t ∈ n.bases, sizeT t ≤ 1000000) :
    Calls Tryz.prog 45 #[.agg #[.slice h.gp n.gates.length h.gc, .slice h.rp n.roles.length h.rc, .slice h.bp n.bases.length h.bc, .slice h.ip n.inputs.length h.ic, .slice h.ap n.initial.length h.ac, .slice h.np n.next.length h.nc, .slice h.lp n.legal.length h.lc, .slice h.op n.goals.length h.oc, .slice h.sp n.sees.length h.sc, .int .i64 n.last, .bool n.hid]] w fun e w' => e = .returned (.bool (factsC groundB n)) ∧ Below w.heap.size w w' := by
  obtain ⟨W1, hW1⟩ : ∃ z, z = w.alloc (.cells #[.slice h.gp n.gates.length h.gc, .slice h.rp n.roles.length h.rc, .slice h.bp n.bases.length h.bc, .slice h.ip n.inputs.length h.ic, .slice h.ap n.initial.length h.ac, .slice h.np n.next.length h.nc, .slice h.lp n.legal.length h.lc, .slice h.op n.goals.length h.oc, .slice h.sp n.sees.length h.sc, .int .i64 n.last, .bool n.hid] 28) := ⟨_, rfl⟩
  have K1 : Hid (Below w.heap.size w W1) := Lib.hid (by rw [hW1]; exact below_alloc _ _)
  have H1 : Hid (Has W1 w.heap.size (netC n h)) := Lib.hid (by rw [hW1]; exact Has.new _ _ _)
  have hzz := K1.out.size
  have KW := Lib.hid (fun w' (q : Below W1.heap.size W1 w') => show Below w.heap.size w w' from K1.out.trans (q.mono hzz))
  have NK := Lib.hid (fun w' (q : Below W1.heap.size W1 w') => k.deep (KW.out w' q) hB)
  have HQ := Lib.hid (fun w' (q : Below W1.heap.size W1 w') => hasN (H1.out.step0 q))
  have hm : n.bases.length ≤ maxLen := by obtain ⟨_, h1, h2⟩ := slin_cap k.bases; omega
  unfold maxLen at hm
  have FT : Hid (∀ b1 b2 : Bool, (∀ j, j < n.bases.length → groundB (tmAt n.bases j) = true) → ordB cmpT n.bases tm0 = b1 → numsB n.initial n.bases.length = b2 → factsC groundB n = (b1 && (b2 && decide (n.next.length = n.bases.length)))) := Lib.hid (fun b1 b2 e e1 e2 => by unfold factsC; rw [alln_true.2 e, e1, e2]; rfl)
  have FF : Hid (∀ j, j < n.bases.length → groundB (tmAt n.bases j) = false → factsC groundB n = false) := Lib.hid (fun j hj e => by unfold factsC; rw [alln_false hj e]; rfl)
  have AT := Lib.hid (fun w' (q : Below W1.heap.size W1 w') => ascterm n.bases B w' _ (Nat.le_trans hB (KW.out w' q).size) (NK.out w' q).bases)
  have AN := Lib.hid (fun w' (q : Below W1.heap.size W1 w') => ascb_any n.initial n.bases.length B w' _ (Nat.le_trans hB (KW.out w' q).size) (NK.out w' q).initial)
  have GA := Lib.hid (fun w' (q : Below W1.heap.size W1 w') j x (hx : n.bases[j]? = some x) sv (hs : SlIn (· < B) w' x.args sv) (hn : x.nm.size ≤ maxLen) => TermH.ground_any x B w' sv (Nat.le_trans hB (KW.out w' q).size) hn hs (hz x (List.mem_of_getElem? hx)))
  clear k hz
  generalize factsC groundB n = R at *
  obtain ⟨q1, q2, q3, q4, q5, q6, q7, q8, q9, q10, q11⟩ := HQ.out W1 (Below.refl _ _)
  generalize hgn : n.next.length = nn at *
  generalize hgi : n.initial.length = ni at *
  generalize hb : n.bases.length = m at *
  have HM := Lib.hid hb
  clear hb hgn hgi
  go_enter Tryz.func45, Tryz.ntmps45
  go_upto_region 1 with fail
  rw [← hW1]
  clear hW1
  go_wp2_with fail
  clear q1 q2 q3 q4 q5 q6 q7 q8 q9 q10 q11
  go_loopw [8] (fun i wr => ∃ k : Nat, k ≤ m ∧ i = .int .i64 k ∧ Hid (∀ j, j < k → groundB (tmAt n.bases j) = true) ∧ Hid (Below W1.heap.size W1 wr)) (fun i _ => m - (intOf i).toNat)
  case atStart => exact ⟨0, Nat.zero_le _, rfl, Lib.hid (fun j hj => by omega), Lib.hid (Below.refl _ _)⟩
  case round =>
    obtain ⟨k, hk, rfl, hT, hD⟩ := hrel
    obtain ⟨q1, q2, q3, q4, q5, q6, q7, q8, q9, q10, q11⟩ := HQ.out wr hD.out
    by_cases hlt : k < m
    · obtain ⟨x, hx⟩ : ∃ x, n.bases[k]? = some x := ⟨n.bases[k]'(by rw [HM.out]; exact hlt), by simp⟩
      obtain ⟨b, o, q, d, ep, hbB, c0, c1, sx, nx⟩ := slin_at (NK.out wr hD.out).bases hx
      have G3 := Lib.hid (fun w' (g : Below wr.heap.size wr w') => GA.out w' (next0 hD.out g) k x hx (.slice q x.args.length d) (sx.frame fun b o (hb : b < B) => g.cell (p := ⟨b, o, none⟩) (Nat.lt_of_lt_of_le hb (Nat.le_trans hB (KW.out wr hD.out).size))) nx)
      obtain ⟨W3, hW3⟩ : ∃ z, z = wr.alloc (.cells #[.string x.nm, .slice q x.args.length d] 58) := ⟨_, rfl⟩
      have J3 : Hid (Below wr.heap.size wr W3) := Lib.hid (by rw [hW3]; exact below_alloc _ _)
      have H3 : Has W3 wr.heap.size #[.string x.nm, .slice q x.args.length d] := by rw [hW3]; exact Has.new _ _ _
      have y1 := H3.cell 0
      have y2 := H3.cell 1
      have G4 := Lib.hid (G3.out W3 J3.out)
      have D3 := Lib.hid (next0 hD.out J3.out)
      have TX := Lib.hid (tm_get hx)
      clear hx sx G3 H3
      generalize hgx : groundB x = gx at *
      have GX := Lib.hid hgx
      clear hgx
      generalize x.nm = xn at *
      generalize x.args.length = xa at *
      go_upto_region 4 with fail
      rw [← hW3]
      clear hW3 c0 c1 ep
      go_wp2_with fail
      refine G4.out.mono ?_
      rintro e w4 ⟨rfl, g4⟩
      have D4 := Lib.hid (next0 D3.out g4)
      clear g4 y1 y2
      cases gx
      · have e0 := Lib.hid (FF.out k hlt (by rw [TX.out]; exact GX.out))
        have D := Lib.hid (KW.out _ D4.out)
        go_wp2_with fail
        go_ret
        exact ⟨by rw [e0.out]; rfl, D.out⟩
      · have T2 : Hid (∀ j, j < k + 1 → groundB (tmAt n.bases j) = true) := Lib.hid (fun j hj => by
          by_cases e : j = k
          · subst e
            rw [TX.out]
            exact GX.out
          · exact hT.out j (by omega))
        clear q1 q2 q3 q4 q5 q6 q7 q8 q9 q10 q11
        go_wp2_with fail
        go_roundw
        case rel => exact ⟨k + 1, by omega, by go_num, T2, D4⟩
        case measure => simp [intOf]; omega
    · obtain rfl : k = m := by omega
      have A1 := Lib.hid (AT.out wr hD.out)
      have FT1 := Lib.hid (fun b1 b2 => FT.out b1 b2 hT.out)
      clear FT FF GA
      generalize ordB cmpT n.bases tm0 = b1 at *
      obtain ⟨b2, hb2⟩ : ∃ b2, numsB n.initial (k : Int) = b2 := ⟨_, rfl⟩
      have HB2 := Lib.hid hb2
      have FT2 := Lib.hid (FT1.out b1 b2 rfl hb2)
      clear FT1 hb2
      go_wp2_with fail
      refine A1.out.mono ?_
      rintro e w4 ⟨rfl, g4⟩
      have D4 := Lib.hid (next0 hD.out g4)
      clear g4 q1 q2 q3 q4 q5 q6 q7 q8 q9 q10 q11
      obtain ⟨q1, q2, q3, q4, q5, q6, q7, q8, q9, q10, q11⟩ := HQ.out w4 D4.out
      have D := Lib.hid (KW.out _ D4.out)
      cases b1
      · go_wp2_with fail
        go_ret
        exact ⟨by rw [FT2.out]; rfl, D.out⟩
      have A2 := Lib.hid (AN.out w4 D4.out)
      rw [HB2.out] at A2
      clear AT AN A1
      go_wp2_with fail
      refine A2.out.mono ?_
      rintro e w5 ⟨rfl, g5⟩
      have D5 := Lib.hid (next0 D4.out g5)
      clear g5 q1 q2 q3 q4 q5 q6 q7 q8 q9 q10 q11
      obtain ⟨q1, q2, q3, q4, q5, q6, q7, q8, q9, q10, q11⟩ := HQ.out w5 D5.out
      have D' := Lib.hid (KW.out _ D5.out)
      cases b2
      · go_wp2_with fail
        go_ret
        exact ⟨by rw [FT2.out]; rfl, D'.out⟩
      have e9 : decide (nn = k) = ((nn : Int) == (k : Int)) := by rw [Bool.eq_iff_iff, decide_eq_true_eq, beq_iff_eq]; omega
      have FT3 : Hid (R = ((nn : Int) == (k : Int))) := Lib.hid (by rw [FT2.out, ← e9]; rfl)
      clear e9
      go_wp2_with fail
      go_ret
      exact ⟨by rw [FT3.out]; rfl, D'.out⟩
end NetG
end Go.Proofs.YtgbbpliihglijaaGreat
