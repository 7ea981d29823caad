/- network.Readers. Condition: SzN. Made by gnRz.py. -/
import Derived.Test.YtgbbpliihglijaaGreatNetRy
import Derived.Test.YtgbbpliihglijaaGreatNetS
namespace Go.Proofs.YtgbbpliihglijaaGreat
open Go Go.RowKit
namespace NetRz
open Kit TermM TermI TermH NetM NetN NetK NetA NetC NetI NetOk NetRe NetRr NetRy NetS
/-- What Readers leaves of a valid network. -/
def ReQ (n : Nt) (w : World) (e : Ending) (w' : World) : Prop :=
  ∃ (gr : Nat) (V : List Value), e = .returned (.slice (some ⟨gr, 0, none⟩) n.gates.length n.gates.length) ∧ RowsR (gr + 1) w' gr n.gates.length (readersN n) V ∧ w.heap.size ≤ gr ∧ Below w.heap.size w w'
set_option maxRecDepth 100000 in
set_option maxHeartbeats 6400000 in
theorem readers_any (n : Nt) (h : Nh) (B : Nat) (w : World) (hB : B ≤ w.heap.size) (k : NetIn (· < B) w n h) (hz : SzN n) (hc0 : chkN groundB n = 0) :
    Calls Tryz.prog 25 #[.agg #[.slice h.gp n.gates.length h.gc, .slice h.rp n.roles.length h.rc, .slice h.bp n.bases.length h.bc, .slice h.ip n.inputs.length h.ic, .slice h.ap n.initial.length h.ac, .slice h.np n.next.length h.nc, .slice h.lp n.legal.length h.lc, .slice h.op n.goals.length h.oc, .slice h.sp n.sees.length h.sc, .int .i64 n.last, .bool n.hid]] w (ReQ n w) := by
  obtain ⟨i0, hi0, hi1, hi2, hi3⟩ := info_parts Tryz.infoN
  obtain ⟨W1, hW1⟩ : ∃ z, z = w.alloc (.cells #[.slice h.gp n.gates.length h.gc, .slice h.rp n.roles.length h.rc, .slice h.bp n.bases.length h.bc, .slice h.ip n.inputs.length h.ic, .slice h.ap n.initial.length h.ac, .slice h.np n.next.length h.nc, .slice h.lp n.legal.length h.lc, .slice h.op n.goals.length h.oc, .slice h.sp n.sees.length h.sc, .int .i64 n.last, .bool n.hid] 28) := ⟨_, rfl⟩
  have K1 : Hid (Below w.heap.size w W1) := Lib.hid (by rw [hW1]; exact below_alloc _ _)
  have H1 : Hid (Has W1 w.heap.size (netC n h)) := Lib.hid (by rw [hW1]; exact Has.new _ _ _)
  have hzz := K1.out.size
  have KW := Lib.hid (fun w' (q : Below W1.heap.size W1 w') => show Below w.heap.size w w' from K1.out.trans (q.mono hzz))
  have NK := Lib.hid (fun w' (q : Below W1.heap.size W1 w') => k.deep (KW.out w' q) hB)
  have HQ := Lib.hid (fun w' (q : Below W1.heap.size W1 w') => hasN (H1.out.step0 q))
  have CK := Lib.hid (check_any n h B W1 (Nat.le_trans hB hzz) (NK.out W1 (Below.refl _ _)) hz)
  rw [hc0] at CK
  have OK := Lib.hid (nok hc0)
  have hm16 : n.gates.length ≤ 16384 := OK.out.few
  have LIN := Lib.hid (fun k g (hg : n.gates[k]? = some g) => gate_lin hc0 hg)
  have RD := Lib.hid (fun k g (hg : n.gates[k]? = some g) => (OK.out.gate k g hg).rd)
  have GTS := Lib.hid (fun k g (hg : n.gates[k]? = some g) => show ∃ b o v, h.gp = some ⟨b, o, none⟩ ∧ ∀ w', Below W1.heap.size W1 w' → RowE KN (· < B) w' g.2.2 v ∧ w'.cell? ⟨b, o + k * 3, none⟩ = some (.int .i64 g.1) ∧ w'.cell? ⟨b, o + k * 3 + 1, none⟩ = some (.int .i64 g.2.1) ∧ w'.cell? ⟨b, o + k * 3 + 2, none⟩ = some v from by
    obtain ⟨v, b, o, e1, e2, e3, e4⟩ := (NK.out W1 (Below.refl _ _)).gates.at hg
    refine ⟨b, o, v, e1, fun w' q => ⟨e3.1.keep fun b o (hb : b < B) => q.cell (p := ⟨b, o, none⟩) (Nat.lt_of_lt_of_le hb (Nat.le_trans hB hzz)), ?_, ?_, ?_⟩⟩
    · exact (q.cell (p := ⟨b, _, none⟩) (Nat.lt_of_lt_of_le e2 (Nat.le_trans hB hzz))).trans (by have := e4 0 _ rfl; simpa [KG] using this)
    · exact (q.cell (p := ⟨b, _, none⟩) (Nat.lt_of_lt_of_le e2 (Nat.le_trans hB hzz))).trans (by have := e4 1 _ rfl; simpa [KG] using this)
    · exact (q.cell (p := ⟨b, _, none⟩) (Nat.lt_of_lt_of_le e2 (Nat.le_trans hB hzz))).trans (by have := e4 2 _ rfl; simpa [KG] using this))
  have HBW := Lib.hid (Nat.le_trans hB hzz)
  have RNX := Lib.hid (fun R k g (hg : n.gates[k]? = some g) => refrom_next R n.gates hg)
  have RG := Lib.hid (fun i R (l : List Int) k x (hx : l[k]? = some x) => regate_next i R l hx)
  have FIN : Hid (readersN n = reFrom 0 (List.replicate n.gates.length []) (n.gates.take n.gates.length)) := Lib.hid (by rw [List.take_length]; rfl)
  have MKQ : Hid (∀ gr V w', RowsR (gr + 1) w' gr n.gates.length (readersN n) V → w.heap.size ≤ gr → Below w.heap.size w w' → ReQ n w (.returned (.slice (some ⟨gr, 0, none⟩) n.gates.length n.gates.length)) w') := Lib.hid (fun gr V w' a b c => ⟨gr, V, rfl, a, b, c⟩)
  clear k hz hc0 NK OK
  obtain ⟨q1, q2, q3, q4, q5, q6, q7, q8, q9, q10, q11⟩ := HQ.out W1 (Below.refl _ _)
  generalize h.gp = gpt at *
  generalize readersN n = RF at *
  generalize hgm : n.gates.length = m at *
  have HM := Lib.hid hgm
  clear hgm
  go_enter Tryz.func25, Tryz.ntmps25
  go_upto_region 1 with fail
  rw [← hW1]
  clear hW1
  go_wp2_with fail
  refine CK.out.mono ?_
  rintro e w4 ⟨rfl, g4⟩
  have D4 := Lib.hid (next0 (Below.refl W1.heap.size W1) g4)
  have DD4 := Lib.hid (KW.out _ D4.out)
  clear g4 CK q1 q2 q3 q4 q5 q6 q7 q8 q9 q10 q11
  obtain ⟨q1, q2, q3, q4, q5, q6, q7, q8, q9, q10, q11⟩ := HQ.out w4 D4.out
  obtain ⟨wm, M, O, G⟩ := make_n w4 m (by omega)
  have O0 := Lib.hid O
  have B0 := Lib.hid ((Below.refl w4.heap.size w4).grown G (Nat.le_refl _) (fun k h => by cases h))
  clear O G
  generalize hg1 : w4.heap.size = g1 at *
  have HG1 := Lib.hid hg1
  clear hg1
  have KD := Lib.hid (fun w' (q : Below g1 w4 w') => show Below W1.heap.size W1 w' from next0 D4.out (by rw [HG1.out]; exact q))
  have rq := HQ.out wm (KD.out _ B0.out)
  obtain ⟨r1, _⟩ := rq
  go_wp2_with fail
  clear r1 q1 q2 q3 q4 q5 q6 q7 q8 q9 q10 q11
  go_loopw [25] (fun i wr => ∃ (k : Nat) (C : List Int), k ≤ m ∧ i = .int .i64 k ∧ Hid (C.length = m) ∧ Hid (CntB C ((k * 16384 : Nat) : Int)) ∧ Hid (wr.ownsRow g1 3 1 (.slice (some ⟨g1, 0, none⟩) m m) m (NetI.numV C)) ∧ Hid (Below g1 w4 wr)) (fun i _ => m - (intOf i).toNat)
  case atStart => exact ⟨0, List.replicate m 0, Nat.zero_le _, rfl, Lib.hid (by simp), Lib.hid (fun c hc => by rw [List.eq_of_mem_replicate hc]; omega), O0, B0⟩
  case round =>
    obtain ⟨k, C, hk, rfl, hCl, hCB, hO, hD⟩ := hrel
    generalize hwo : wr = wo at *
    clear hwo
    have hzo : g1 ≤ wo.heap.size := by have h1 := HG1.out; have h2 := hD.out.size; omega
    by_cases hlt : k < m
    · obtain ⟨⟨gk, gx, gl⟩, hg⟩ : ∃ g, n.gates[k]? = some g := ⟨n.gates[k]'(by rw [HM.out]; exact hlt), by simp⟩
      obtain ⟨b, o, v, rfl, hall⟩ := GTS.out k _ hg
      obtain ⟨hrow, c0, c1, c2⟩ := hall wo (KD.out _ hD.out)
      obtain ⟨pi, ci, rfl⟩ := hrow.form
      dsimp only at c0 c1 c2 hrow hall
      have LI := LIN.out k _ hg
      have RI := Lib.hid (RD.out k _ hg)
      dsimp only at LI
      have EL : Hid (∀ (j : Nat) (x : Int), gl[j]? = some x → ∀ w', Below W1.heap.size W1 w' → ∃ g o, pi = some ⟨g, o, none⟩ ∧ w'.cell? ⟨g, o + j, none⟩ = some (.int .i64 x)) := Lib.hid (fun j x hx w' q => readn (hall w' q).1 (fun b (hb : b < B) => Nat.lt_of_lt_of_le hb (Nat.le_trans HBW.out q.size)) j x hx w' (Below.refl _ _))
      have NXT := Lib.hid (fun R => RNX.out R k _ hg)
      obtain ⟨W3, hW3⟩ : ∃ z, z = wo.alloc (.cells #[.int .i64 gk, .int .i64 gx, .slice pi gl.length ci] 55) := ⟨_, rfl⟩
      have J3 : Hid (Below wo.heap.size wo W3) := Lib.hid (by rw [hW3]; exact below_alloc _ _)
      have H3 : Has W3 wo.heap.size #[.int .i64 gk, .int .i64 gx, .slice pi gl.length ci] := by rw [hW3]; exact Has.new _ _ _
      have y2 := H3.cell 2
      have D3 : Hid (Below g1 w4 W3) := Lib.hid (hD.out.trans (J3.out.mono hzo))
      have hz3 : wo.heap.size ≤ W3.heap.size := J3.out.size
      have j0 : (0 : Int) ≤ (k : Int) := by omega
      have j1 : (k : Int) < m := by omega
      have O3 : Hid (W3.ownsRow g1 3 1 (.slice (some ⟨g1, 0, none⟩) m m) m (NetI.numV C)) := Lib.hid (own_below hO.out J3.out)
      clear hg hrow H3 hall
      generalize hll : gl.length = ll at *
      have HLL := Lib.hid hll
      clear hll
      go_upto_region 7 with fail
      rw [← hW3]
      clear hW3 c0 c1 c2
      go_wp2_with fail
      clear y2
      go_loopw [32] (fun i wr => ∃ (j : Nat) (C2 : List Int), j ≤ ll ∧ i = .int .i64 j ∧ Hid (C2.length = m) ∧ Hid (CntB C2 (((k * 16384 + j : Nat)) : Int)) ∧ Hid (wr.ownsRow g1 3 1 (.slice (some ⟨g1, 0, none⟩) m m) m (NetI.numV C2)) ∧ Hid (Below g1 w4 wr)) (fun i _ => ll - (intOf i).toNat)
      case atStart => exact ⟨0, C, Nat.zero_le _, rfl, hCl, hCB, O3, D3⟩
      case round =>
        obtain ⟨j, C2, hj, rfl, hCl2, hCB2, hO2, hD2⟩ := hrel
        generalize hwp : wr = wp at *
        clear hwp
        have hzp : g1 ≤ wp.heap.size := by have h1 := HG1.out; have h2 := hD2.out.size; omega
        by_cases hlj : j < ll
        · obtain ⟨x, hx⟩ : ∃ x, gl[j]? = some x := ⟨gl[j]'(by rw [HLL.out]; exact hlj), by simp⟩
          obtain ⟨gb, ob, rfl, c1⟩ := EL.out j x hx wp (KD.out _ hD2.out)
          have hxr := RI.out x (List.mem_of_getElem? hx)
          obtain ⟨t, rfl⟩ : ∃ t : Nat, x = (t : Int) := ⟨x.toNat, by omega⟩
          have htm : t < m := by omega
          obtain ⟨c, hc⟩ : ∃ c, C2[t]? = some c := ⟨C2[t]'(by rw [hCl2.out]; exact htm), by simp⟩
          have hcb := hCB2.out c (List.mem_of_getElem? hc)
          have x1 := (hO2.out.cellAt t (by omega)).trans (numv_get hc)
          have x2 := hO2.out.frozenAt t
          have ST := Lib.hid (hO2.out.stored t (.int .i64 (c + 1)))
          have S1 : Hid ((NetI.numV C2).set t (.int .i64 (c + 1)) = NetI.numV (C2.set t (c + 1))) := Lib.hid numv_set
          have CB : Hid (CntB (C2.set t (c + 1)) (((k * 16384 + (j + 1) : Nat)) : Int)) := Lib.hid (by have := cnt_set hCB2.out hc; exact fun y hy => by have := this y hy; omega)
          have CLn : Hid ((C2.set t (c + 1)).length = m) := Lib.hid (by rw [List.length_set]; exact hCl2.out)
          have k0 : (0 : Int) ≤ (j : Int) := by omega
          have k1 : (j : Int) < ll := by omega
          have k2 : (0 : Int) ≤ (t : Int) := by omega
          have k3 : (t : Int) < m := by omega
          have k4 : -9223372036854775808 ≤ c + 1 := by omega
          have k5 : c + 1 ≤ 9223372036854775807 := by omega
          clear hx hc hxr
          go_wp2_with fail
          go_roundw
          case rel =>
            refine ⟨j + 1, C2.set t (c + 1), by omega, by go_num, CLn, CB, ?_, ?_⟩
            · have h := ST.out.1
              rw [S1.out] at h
              first | exact Lib.hid h | (exact Lib.hid (by simpa using h))
            · exact Lib.hid (hD2.out.grown ST.out.2 (by have := HG1.out; omega) (fun k h => by cases h; exact Nat.le_refl _))
          case measure => simp [intOf] <;> omega
        · obtain rfl : j = ll := by omega
          have CB : Hid (CntB C2 (((k + 1) * 16384 : Nat) : Int)) := Lib.hid (fun y hy => by have := hCB2.out y hy; omega)
          go_wp2_with fail
          go_roundw
          case rel => first | exact ⟨k + 1, C2, by omega, by go_num, hCl2, CB, hO2, hD2⟩ | ((repeat (apply Exists.intro)); refine ⟨?_, rfl⟩; exact ⟨k + 1, C2, by omega, by go_num, hCl2, CB, hO2, hD2⟩)
          case measure => simp [intOf] <;> omega
    · obtain rfl : k = m := by omega
      obtain ⟨q1, _⟩ := HQ.out wo (KD.out _ hD.out)
      obtain ⟨wn, MR, hRR, hBn⟩ := make_r wo k (by omega)
      have RR0 := Lib.hid hRR
      have D8 : Hid (Below g1 w4 wn) := Lib.hid (hD.out.trans (hBn.mono hzo))
      have hg1o : g1 < wo.heap.size := (hO.out.lt g1 rfl).2
      have CC : Hid (∀ (j : Nat) (c : Int), C[j]? = some c → wn.cell? ⟨g1, j, none⟩ = some (.int .i64 c)) := Lib.hid (fun j c hc => (hBn.cell (p := ⟨g1, j, none⟩) hg1o).trans ((hO.out.cellAt j (by have := (List.getElem?_eq_some_iff.1 hc).1; rw [hCl.out] at this; omega)).trans (numv_get hc)))
      clear hRR hBn
      generalize hgr : wo.heap.size = gr at *
      clear hgr O0 B0
      obtain ⟨q1', _⟩ := HQ.out wn (KD.out _ D8.out)
      go_wp2_with fail
      clear q1 q1'
      go_loopw [50] (fun i wr => ∃ (j : Nat) (V : List Value), j ≤ k ∧ i = .int .i64 j ∧ Hid (RowsR (gr + 1) wr gr k (List.replicate k []) V) ∧ Hid (∀ (j : Nat) (c : Int), C[j]? = some c → wr.cell? ⟨g1, j, none⟩ = some (.int .i64 c)) ∧ Hid (Below g1 w4 wr)) (fun i _ => k - (intOf i).toNat)
      case atStart => exact ⟨0, List.replicate k (.slice none 0 0), Nat.zero_le _, rfl, RR0, CC, D8⟩
      case round =>
        obtain ⟨j, V, hj, rfl, hR, hCC, hD5⟩ := hrel
        generalize hwp : wr = wp at *
        clear hwp
        have hgl : gr < wp.heap.size := hR.out.lt
        by_cases hlj : j < k
        · obtain ⟨c, hc⟩ : ∃ c, C[j]? = some c := ⟨C[j]'(by rw [hCl.out]; exact hlj), by simp⟩
          have x1 := hCC.out j c hc
          have hcb := hCB.out c (List.mem_of_getElem? hc)
          have hck : c ≤ 1000000000 := by omega
          obtain ⟨wq, MQ, hOq, hBq⟩ := make_e wp c hcb.1 hck
          obtain ⟨v0, hv0⟩ : ∃ v, V[j]? = some v := ⟨V[j]'(by rw [hR.out.lenV]; exact hlj), by simp⟩
          have x2 := (hBq.cell (p := ⟨gr, j, none⟩) hgl).trans (hR.out.cell j v0 hv0)
          have x3 := (hBq.frozen (p := ⟨gr, j, none⟩) hgl).trans (hR.out.free j)
          have RN := Lib.hid (hR.out.fresh hlj hBq (Nat.le_refl _) (hOq (gr + 1) (by omega)))
          rw [rep_set] at RN
          have CN : Hid (∀ (i : Nat) (c' : Int), C[i]? = some c' → (wq.setCell ⟨gr, j, none⟩ (.slice (some ⟨wp.heap.size, 0, none⟩) 0 c.toNat)).cell? ⟨g1, i, none⟩ = some (.int .i64 c')) := Lib.hid (fun i c' hi => by
            rw [World.cell?_setCell_other _ _ _ _ (by intro e; injection e with e1 e2; omega)]
            exact (hBq.cell (p := ⟨g1, i, none⟩) (show g1 < wp.heap.size by omega)).trans (hCC.out i c' hi))
          have DN : Hid (Below g1 w4 (wq.setCell ⟨gr, j, none⟩ (.slice (some ⟨wp.heap.size, 0, none⟩) 0 c.toNat))) := Lib.hid ((hD5.out.trans (hBq.mono (by omega))).setCell (p := ⟨gr, j, none⟩) (show g1 ≤ gr by omega) _)
          have k0 : (0 : Int) ≤ (j : Int) := by omega
          have k1 : (j : Int) < k := by omega
          clear hc hOq hBq hv0 hcb
          go_wp2_with fail
          go_roundw
          case rel => first | exact ⟨j + 1, _, by omega, by go_num, RN, CN, DN⟩ | ((repeat (apply Exists.intro)); refine ⟨?_, rfl⟩; exact ⟨j + 1, _, by omega, by go_num, RN, CN, DN⟩)
          case measure => simp [intOf] <;> omega
        · obtain rfl : j = k := by omega
          obtain ⟨q1, _⟩ := HQ.out wp (KD.out _ hD5.out)
          generalize hwx : wp = wx at *
          clear hwx hCC CC
          generalize hjm : j = m at *
          clear hjm
          have hg1r : g1 ≤ gr := by omega
          have RS0 : Hid (RowsR (gr + 1) wx gr m (reFrom 0 (List.replicate m []) (n.gates.take 0)) V) := Lib.hid hR.out
          have RB0 : Hid (ReB (reFrom 0 (List.replicate m []) (n.gates.take 0)) (0 * 16384)) := Lib.hid (fun l hl => by
            have := List.eq_of_mem_replicate (show l ∈ List.replicate m [] from hl)
            rw [this]
            exact Nat.zero_le _)
          go_wp2_with fail
          clear q1
          go_loopw [64] (fun i wr => ∃ (k : Nat) (V : List Value), k ≤ m ∧ i = .int .i64 k ∧ Hid (RowsR (gr + 1) wr gr m (reFrom 0 (List.replicate m []) (n.gates.take k)) V) ∧ Hid (ReB (reFrom 0 (List.replicate m []) (n.gates.take k)) (k * 16384)) ∧ Hid (Below g1 w4 wr)) (fun i _ => m - (intOf i).toNat)
          case atStart => exact ⟨0, V, Nat.zero_le _, rfl, RS0, RB0, hD5⟩
          case round =>
            obtain ⟨k, V1, hk1, rfl, hR1, hB1, hD⟩ := hrel
            generalize hwo : wr = wo at *
            clear hwo
            have hzo : g1 ≤ wo.heap.size := by have h1 := hR1.out.lt; omega
            by_cases hlt : k < m
            · obtain ⟨⟨gk, gx, gl⟩, hg⟩ : ∃ g, n.gates[k]? = some g := ⟨n.gates[k]'(by rw [HM.out]; exact hlt), by simp⟩
              obtain ⟨b, o, v, rfl, hall⟩ := GTS.out k _ hg
              obtain ⟨hrow, c0, c1, c2⟩ := hall wo (KD.out _ hD.out)
              obtain ⟨pi, ci, rfl⟩ := hrow.form
              dsimp only at c0 c1 c2 hrow hall
              have LI := LIN.out k _ hg
              have RI := Lib.hid (RD.out k _ hg)
              dsimp only at LI
              have EL : Hid (∀ (j : Nat) (x : Int), gl[j]? = some x → ∀ w', Below W1.heap.size W1 w' → ∃ g o, pi = some ⟨g, o, none⟩ ∧ w'.cell? ⟨g, o + j, none⟩ = some (.int .i64 x)) := Lib.hid (fun j x hx w' q => readn (hall w' q).1 (fun b (hb : b < B) => Nat.lt_of_lt_of_le hb (Nat.le_trans HBW.out q.size)) j x hx w' (Below.refl _ _))
              have NXT := Lib.hid (fun R => RNX.out R k _ hg)
              obtain ⟨W3, hW3⟩ : ∃ z, z = wo.alloc (.cells #[.int .i64 gk, .int .i64 gx, .slice pi gl.length ci] 55) := ⟨_, rfl⟩
              have J3 : Hid (Below wo.heap.size wo W3) := Lib.hid (by rw [hW3]; exact below_alloc _ _)
              have H3 : Has W3 wo.heap.size #[.int .i64 gk, .int .i64 gx, .slice pi gl.length ci] := by rw [hW3]; exact Has.new _ _ _
              have y2 := H3.cell 2
              have D3 : Hid (Below g1 w4 W3) := Lib.hid (hD.out.trans (J3.out.mono hzo))
              have hz3 : wo.heap.size ≤ W3.heap.size := J3.out.size
              have j0 : (0 : Int) ≤ (k : Int) := by omega
              have j1 : (k : Int) < m := by omega
              have R3 := Lib.hid (hR1.out.below J3.out)
              clear hg hrow H3 hall
              generalize hll : gl.length = ll at *
              have HLL := Lib.hid hll
              clear hll
              generalize hQ : reFrom 0 (List.replicate m []) (n.gates.take k) = Q at *
              have RX := Lib.hid (NXT.out (List.replicate m []))
              rw [hQ] at RX
              clear hQ NXT
              have RX2 : Hid (reFrom 0 (List.replicate m []) (n.gates.take (k + 1)) = reGate k Q (gl.take ll)) := Lib.hid (by rw [RX.out, ← HLL.out, List.take_length])
              clear RX
              go_upto_region 22 with fail
              rw [← hW3]
              clear hW3 c0 c1 c2
              go_wp2_with fail
              clear y2
              go_loopw [72] (fun i wr => ∃ (j : Nat) (V2 : List Value), j ≤ ll ∧ i = .int .i64 j ∧ Hid (RowsR (gr + 1) wr gr m (reGate k Q (gl.take j)) V2) ∧ Hid (ReB (reGate k Q (gl.take j)) (k * 16384 + j)) ∧ Hid (Below g1 w4 wr)) (fun i _ => ll - (intOf i).toNat)
              case atStart => exact ⟨0, V1, Nat.zero_le _, rfl, R3, hB1, D3⟩
              case round =>
                obtain ⟨j, V2, hj, rfl, hR2, hB2, hD2⟩ := hrel
                generalize hwp : wr = wp at *
                clear hwp
                have hgl := hR2.out.lt
                have hgb : g1 ≤ gr + 1 := by omega
                have hzp : g1 ≤ wp.heap.size := by omega
                by_cases hlj : j < ll
                · obtain ⟨x, hx⟩ : ∃ x, gl[j]? = some x := ⟨gl[j]'(by rw [HLL.out]; exact hlj), by simp⟩
                  obtain ⟨gb, ob, rfl, c1⟩ := EL.out j x hx wp (KD.out _ hD2.out)
                  have hxr := RI.out x (List.mem_of_getElem? hx)
                  obtain ⟨t, rfl⟩ : ∃ t : Nat, x = (t : Int) := ⟨x.toNat, by omega⟩
                  have htm : t < m := by omega
                  obtain ⟨F, hFR⟩ : ∃ F, (reGate k Q (gl.take j))[t]? = some F := ⟨(reGate k Q (gl.take j))[t]'(by rw [hR2.out.lenR]; exact htm), by simp⟩
                  obtain ⟨v, hFV⟩ : ∃ v, V2[t]? = some v := ⟨V2[t]'(by rw [hR2.out.lenV]; exact htm), by simp⟩
                  have hO := Lib.hid (hR2.out.own t F v hFR hFV)
                  obtain ⟨va, vc, rfl⟩ := form1 hO.out
                  have cv := hR2.out.cell t _ hFV
                  have hFl := hB2.out F (List.mem_of_getElem? hFR)
                  have RS : Hid (reGate k Q (gl.take (j + 1)) = (reGate k Q (gl.take j)).set t (F ++ [(k : Int)])) := Lib.hid (by
                    rw [RG.out k Q gl j _ hx]
                    unfold reStep
                    rw [Int.toNat_natCast, re_get hFR])
                  have RB : Hid (ReB (reGate k Q (gl.take (j + 1))) (k * 16384 + (j + 1))) := Lib.hid (by rw [RG.out k Q gl j _ hx]; exact re_set hB2.out)
                  have k0 : (0 : Int) ≤ (j : Int) := by omega
                  have k1 : (j : Int) < ll := by omega
                  have k2 : (0 : Int) ≤ (t : Int) := by omega
                  have k3 : (t : Int) < m := by omega
                  have AA1 : F.length + 1 ≤ maxLen := by unfold maxLen; omega
                  have AA2 : (F.length + 1) * 8 ≤ 140737488355328 := by omega
                  have AA3 : gr + 1 ≤ (wp.alloc (.cells #[.int .i64 (k : Int)] 3)).heap.size := by simp <;> omega
                  clear hx hxr
                  go_wp2_with (at_builtin; go_must (refine wpList_append_lies _ rfl _ _ 25 rfl (gr + 1) 3 i0 (.int .i64 0) 1 8 Tryz.underlying25 hi0 hi1 hi2 hi3 rfl (by decide) (.slice va F.length vc) F.length (NetI.numV F) rfl (hO.out.alloc _) ⟨wp.heap.size, 0, none⟩ 1 1 [.int .i64 (k : Int)] rfl rfl (World.news_of_block (heap_alloc_new wp _)) (one_int (k : Int)) (by decide) AA1 AA2 AA3 (wp.heap.size + 1) (by simp) ?_; intro g6 c6 w6 hown6 hgrow6 hat6 hlt6; have RN := Lib.hid (hR2.out.push hFR hFV hown6 hgrow6 hat6); have D6 := Lib.hid ((hD2.out.alloc hzp (.cells #[.int .i64 (k : Int)] 3)).grown hgrow6 (by simp <;> omega) (fun j hj => Nat.le_trans hgb (hO.out.lt j hj).1)); have x1 := (World.cell?_of_block (w := wp) (w' := w6) (a := ⟨gr, t, none⟩) ((hgrow6.block gr (by simp; omega) (fun e => by have := (hO.out.lt gr e.symm).1; omega)).trans (Below.heap_alloc _ _ _ hgl))).trans cv; have x2 := (World.frozen?_of_block (w := wp) (w' := w6) (a := ⟨gr, t, none⟩) ((hgrow6.block gr (by simp; omega) (fun e => by have := (hO.out.lt gr e.symm).1; omega)).trans (Below.heap_alloc _ _ _ hgl))).trans (hR2.out.free t); clear hown6 hgrow6 hat6 hlt6))
                  go_roundw
                  case rel => first | exact ⟨j + 1, _, by omega, by go_num, (by rw [RS.out]; exact RN), RB, Lib.hid (D6.out.setCell (p := ⟨gr, t, none⟩) (show g1 ≤ gr by omega) _)⟩ | ((repeat (apply Exists.intro)); refine ⟨?_, rfl⟩; exact ⟨j + 1, _, by omega, by go_num, (by rw [RS.out]; exact RN), RB, Lib.hid (D6.out.setCell (p := ⟨gr, t, none⟩) (show g1 ≤ gr by omega) _)⟩)
                  case measure => simp [intOf] <;> omega
                · obtain rfl : j = ll := by omega
                  have RA : Hid (RowsR (gr + 1) wp gr m (reFrom 0 (List.replicate m []) (n.gates.take (k + 1))) V2) := Lib.hid (by rw [RX2.out]; exact hR2.out)
                  have RB : Hid (ReB (reFrom 0 (List.replicate m []) (n.gates.take (k + 1))) ((k + 1) * 16384)) := Lib.hid (by rw [RX2.out]; exact fun l hl => by have := hB2.out l hl; omega)
                  go_wp2_with fail
                  go_roundw
                  case rel => first | exact ⟨k + 1, V2, by omega, by go_num, RA, RB, hD2⟩ | ((repeat (apply Exists.intro)); refine ⟨?_, rfl⟩; exact ⟨k + 1, V2, by omega, by go_num, RA, RB, hD2⟩)
                  case measure => simp [intOf] <;> omega
            · obtain rfl : k = m := by omega
              have hgw : w.heap.size ≤ gr := by have h1 := DD4.out.size; have h2 := HG1.out; omega
              have FF := Lib.hid (MKQ.out gr V1 wo (by rw [FIN.out]; exact hR1.out) hgw (DD4.out.trans (hD.out.mono (by have h1 := DD4.out.size; have h2 := HG1.out; omega))))
              go_wp2_with fail
              go_ret
              exact FF.out
end NetRz
end Go.Proofs.YtgbbpliihglijaaGreat
