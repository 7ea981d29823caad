/- Texts laid together: NetQs; NetOp; NetQo; NetQl; DeltaRuns. Their own heads stand before each. -/
import Derived.Test.YtgbbpliihglijaaGreatGDB
import Derived.Test.YtgbbpliihglijaaGreatGDA
import Derived.BigQuiet
import Derived.Test.YtgbbpliihglijaaGreatGBB
import Derived.Test.YtgbbpliihglijaaGreatGBD
import Derived.Test.YtgbbpliihglijaaGreatGDC
import Derived.Test.YtgbbpliihglijaaGreatNetY
import Derived.ChangeMaps5
/- The reference's Set. Conditions: a valid network. Made by gnQs.py. -/
namespace Go.Proofs.YtgbbpliihglijaaGreat
open Go Go.RowKit
namespace NetQs
open Kit TermM TermI TermH NetM NetN NetK NetA NetC NetI NetMk NetNu NetOk NetEv NetBo NetMb NetS NetVa NetVv NetDn NetDp NetLt NetQa NetQe
/-- A row of bools that an engine's block does not touch. -/
def SrB (re : Nat) (L : List Bool) (w : World) (v : Value) : Prop := ∀ z, Lt (· = re) w z → RowE KB (· < z.heap.size) z L v
theorem SrB.of {s re : Nat} {L : List Bool} {w : World} {v : Value} (h : RowE KB (fun b => s ≤ b ∧ b < w.heap.size) w L v) (hs : re < s) : SrB re L w v := fun _ q => (h.keep fun _ o hb => q.cell (o := o) hb.2 (by have := hb.1; omega)).wide fun _ hb => Nat.lt_of_lt_of_le hb.2 q.size
theorem SrB.step {re : Nat} {L : List Bool} {w w' : World} {v : Value} (h : SrB re L w v) (q : Lt (· = re) w w') : SrB re L w' v := fun z k => h z (q.trans k)
theorem dif_get {A B : List Bool} {k : Nat} {a b : Bool} (h1 : A[k]? = some a) (h2 : B[k]? = some b) : dif A B (k : Int) = (a != b) := by
  unfold dif
  rw [v_get (by rw [Int.toNat_natCast]; exact h1), v_get (by rw [Int.toNat_natCast]; exact h2)]
/-- Whether one of the first j read gates differs. -/
def anyK (A B : List Bool) (l : List Int) (j : Nat) : Bool := (l.take j).any (dif A B)
theorem any_next {A B : List Bool} {l : List Int} {j : Nat} {x : Int} (h : l[j]? = some x) : anyK A B l (j + 1) = (anyK A B l j || dif A B x) := by
  unfold anyK
  rw [List.take_add_one, h, List.any_append]
  simp
theorem any_all {A B : List Bool} {g : Gt} : anyK A B g.2.2 g.2.2.length = rdsB A B g := by
  unfold anyK rdsB
  rw [List.take_length]
/-- What Set leaves. -/
def SetR (n : Nt) (h : Nh) (B re : Nat) (st ip st' ip' : List Int) (wk : Int) (w : World) (e : Ending) (w' : World) : Prop :=
  e = .returned (.tuple #[.int .i64 (runC n st ip wk st' ip').1, .int .i64 (runC n st ip wk st' ip').2.1]) ∧ (∃ us ui, Rg n h B re (runC n st ip wk st' ip').2.2.1 (runC n st ip wk st' ip').2.2.2.1 us ui (runC n st ip wk st' ip').2.2.2.2 w') ∧ Lt (· = re) w w' ∧ ∀ o : Nat, o < 11 ∨ 13 < o → w'.cell? ⟨re, o, none⟩ = w.cell? ⟨re, o, none⟩
set_option maxRecDepth 100000 in
set_option maxHeartbeats 6400000 in
theorem rset_bad (n : Nt) (h : Nh) (B re : Nat) (st ip st' ip' : List Int) (vs vi us ui : Value) (k er : Int) (w : World) (E : Rg n h B re st ip vs vi k w) (hz : SzN n) (her : evE groundB st' ip' n = er) (he0 : er ≠ 0) (hs : RowE KN (· < B) w st' us) (hi : RowE KN (· < B) w ip' ui) :
    Calls Tryz.prog 10 #[.pointer (some ⟨re, 0, none⟩), us, ui] w fun e w' => e = .returned (.tuple #[.int .i64 0, .int .i64 er]) ∧ Below w.heap.size w w' := by
  have hB : B ≤ w.heap.size := Nat.le_of_lt (Nat.lt_of_le_of_lt E.far E.lt)
  have RV := Lib.hid (NetRw.r23values_any n h st' ip' B w _ _ hB E.nn hz hs hi)
  rw [her] at RV
  obtain ⟨psl, csl, rfl⟩ := hs.form
  obtain ⟨pil, cil, rfl⟩ := hi.form
  obtain ⟨n0, n1, n2, n3, n4, n5, n6, n7, n8, n9, n10⟩ := E.net
  have i1 : (er != 0) = true := by simp [he0]
  clear E hs hi her he0
  generalize evV groundB st' ip' n = V at *
  go_enter Tryz.func10, Tryz.ntmps10
  go_wp2_with fail
  refine RV.out.mono ?_
  rintro e w2 ⟨v2, rfl, r2, g2⟩
  have D2 : Hid (Below w.heap.size w w2) := Lib.hid g2
  obtain ⟨p2, c2, rfl⟩ := r2.form
  clear r2 g2 RV n0 n1 n2 n3 n4 n5 n6 n7 n8 n9 n10
  go_wp2_with fail
  refine bodyPost_ret (v := .tuple #[.int .i64 0, .int .i64 er]) (by simp [results, Tryz.results10, go_sem]) rfl ?_
  exact ⟨rfl, D2.out⟩
set_option maxRecDepth 100000 in
set_option maxHeartbeats 6400000 in
theorem rset_ok (n : Nt) (h : Nh) (B re : Nat) (st ip st' ip' : List Int) (vs vi us ui : Value) (k : Int) (w : World) (E : Rg n h B re st ip vs vi k w) (hz : SzN n) (hck : chkN groundB n = 0) (b0 : numsB st n.bases.length = true ∧ numsB ip n.inputs.length = true) (b1 : numsB st' n.bases.length = true ∧ numsB ip' n.inputs.length = true) (hs : RowE KN (· < B) w st' us) (hi : RowE KN (· < B) w ip' ui) :
    Calls Tryz.prog 10 #[.pointer (some ⟨re, 0, none⟩), us, ui] w fun e w' => e = .returned (.tuple #[.int .i64 (chN (valsN st ip n) (valsN st' ip' n) n.gates.length : Nat), .int .i64 0]) ∧ Rg n h B re st' ip' us ui (wkN (valsN st ip n) (valsN st' ip' n) n n.gates.length : Nat) w' ∧ Lt (· = re) w w' ∧ ∀ o : Nat, o < 11 ∨ 13 < o → w'.cell? ⟨re, o, none⟩ = w.cell? ⟨re, o, none⟩ := by
  have hB : B ≤ w.heap.size := Nat.le_of_lt (Nat.lt_of_le_of_lt E.far E.lt)
  have RV := Lib.hid (NetRw.r23values_any n h st' ip' B w _ _ hB E.nn hz hs hi)
  rw [evv_ok (ev_ok hck b1.1 b1.2), ev_ok hck b1.1 b1.2] at RV
  have HS := Lib.hid hs
  have HI := Lib.hid hi
  obtain ⟨psl, csl, rfl⟩ := hs.form
  obtain ⟨pil, cil, rfl⟩ := hi.form
  have OK := Lib.hid (nok hck)
  have hm16 : n.gates.length ≤ 16384 := OK.out.few
  have HE := Lib.hid E
  have RVL := Lib.hid (fun w' E => rvals_any n h B re st ip vs vi k w' E hz hck b0)
  have HB := Lib.hid hB
  have RLT := Lib.hid E.lt
  have LA := Lib.hid (valsn_len st ip n)
  have LB := Lib.hid (valsn_len st' ip' n)
  have GK := Lib.hid (fun k g (hg : n.gates[k]? = some g) => OK.out.gate k g hg)
  have GTS := Lib.hid (fun k g (hg : n.gates[k]? = some g) w' (nn : NetIn (· < B) w' n h) => show ∃ pi ci bb o, h.gp = some ⟨bb, o, none⟩ ∧ w'.cell? ⟨bb, o + k * 3 + 2, none⟩ = some (.slice pi g.2.2.length ci) ∧ RowE KN (· < B) w' g.2.2 (.slice pi g.2.2.length ci) from by
    obtain ⟨v, bb, o, e1, e2, e3, e4⟩ := nn.gates.at hg
    obtain ⟨pi, ci, ev⟩ : ∃ p c, v = .slice p g.2.2.length c := RowE.form e3.1
    subst ev
    exact ⟨pi, ci, bb, o, e1, by have := e4 2 _ rfl; simpa [KG] using this, e3.1⟩)
  obtain ⟨n0, n1, n2, n3, n4, n5, n6, n7, n8, n9, n10⟩ := E.net
  clear E hs hi hck b0 b1 hB hz
  generalize valsN st ip n = V0 at *
  generalize valsN st' ip' n = V1 at *
  go_enter Tryz.func10, Tryz.ntmps10
  go_wp2_with fail
  refine RV.out.mono ?_
  rintro e w2 ⟨v2, rfl, r2, g2⟩
  have D2 : Hid (Below w.heap.size w w2) := Lib.hid g2
  have S1 := Lib.hid (SrB.of r2 RLT.out)
  have E2 := Lib.hid (HE.out.below g2)
  obtain ⟨p2, c2, rfl⟩ := r2.form
  have CV := Lib.hid (RVL.out w2 E2.out)
  clear r2 g2 RV n0 n1 n2 n3 n4 n5 n6 n7 n8 n9 n10
  go_wp2_with fail
  refine CV.out.mono ?_
  rintro e w3 ⟨v3, rfl, r3, g3⟩
  have S0 := Lib.hid (SrB.of r3 (Nat.lt_of_lt_of_le RLT.out D2.out.size))
  have S1' := Lib.hid (S1.out.step (Lt.of g3))
  have E3 := Lib.hid (E2.out.below g3)
  have L3 : Hid (Lt (· = re) w w3) := Lib.hid (Lt.of (D2.out.trans (g3.mono D2.out.size)))
  have OC3 : Hid (∀ o : Nat, o < 11 ∨ 13 < o → w3.cell? ⟨re, o, none⟩ = w.cell? ⟨re, o, none⟩) := Lib.hid (fun o _ => (D2.out.trans (g3.mono D2.out.size)).cell (p := ⟨re, o, none⟩) RLT.out)
  obtain ⟨p3, c3, rfl⟩ := r3.form
  clear r3 g3 CV S1 E2 HE
  have x13 := E3.out.c13
  have y13 := E3.out.free 13
  have EP := Lib.hid (E3.out.put (x := 0))
  have LP : Hid (Lt (· = re) w3 (w3.setCell ⟨re, 13, none⟩ (.int .i64 0))) := Lib.hid (Lt.put (ex := (· = re)) (Lt.refl (· = re) w3) (p := ⟨re, 13, none⟩) (Or.inl rfl) _)
  have OCP : Hid (∀ o : Nat, o < 11 ∨ 13 < o → (w3.setCell ⟨re, 13, none⟩ (.int .i64 0)).cell? ⟨re, o, none⟩ = w.cell? ⟨re, o, none⟩) := Lib.hid (fun o ho => (World.cell?_setCell_other _ _ _ _ (by intro e; injection e with e1 e2; omega)).trans (OC3.out o ho))
  generalize hl1 : V1.length = l1 at *
  generalize hl0 : V0.length = l0 at *
  have HL1 := Lib.hid hl1
  have HL0 := Lib.hid hl0
  clear hl1 hl0
  generalize hgm : n.gates.length = m at *
  have HM := Lib.hid hgm
  clear hgm
  obtain rfl : l1 = m := LB.out
  obtain rfl : l0 = l1 := LA.out
  have RDS : Hid (∀ (k : Nat) g (x : Int), n.gates[k]? = some g → x ∈ g.2.2 → 0 ≤ x ∧ x < (l0 : Int)) := Lib.hid (fun k g x hg hx => by
    have h1 := (GK.out k g hg).rd x hx
    have h2 := (List.getElem?_eq_some_iff.1 hg).1
    rw [HM.out] at h2
    omega)
  have CY := Lib.hid (fun (k : Nat) (h : dif V0 V1 (k : Int) = true) => show chN V0 V1 (k + 1) = chN V0 V1 k + 1 from cntp_yes h)
  have CN := Lib.hid (fun (k : Nat) (h : dif V0 V1 (k : Int) = false) => show chN V0 V1 (k + 1) = chN V0 V1 k from cntp_no h)
  have CL := Lib.hid (fun (k : Nat) => show chN V0 V1 k ≤ k from cntp_le _ _)
  have WY := Lib.hid (fun (k : Nat) (h : rdAt V0 V1 n k = true) => show wkN V0 V1 n (k + 1) = wkN V0 V1 n k + 1 from cntp_yes h)
  have WN := Lib.hid (fun (k : Nat) (h : rdAt V0 V1 n k = false) => show wkN V0 V1 n (k + 1) = wkN V0 V1 n k from cntp_no h)
  have WL := Lib.hid (fun (k : Nat) => show wkN V0 V1 n k ≤ k from cntp_le _ _)
  have DG := Lib.hid (fun (k : Nat) (a b : Bool) (h1 : V0[k]? = some a) (h2 : V1[k]? = some b) => dif_get h1 h2)
  go_wp2_with fail
  clear x13 y13
  go_loopw [11, 12] (fun s i wr => ∃ k : Nat, k ≤ l0 ∧ i = .int .i64 k ∧ s = .int .i64 (chN V0 V1 k : Nat) ∧ Hid (Rg n h B re st ip vs vi (wkN V0 V1 n k : Nat) wr) ∧ Hid (Lt (· = re) w3 wr) ∧ Hid (∀ o : Nat, o < 11 ∨ 13 < o → wr.cell? ⟨re, o, none⟩ = w.cell? ⟨re, o, none⟩)) (fun _ i _ => l0 - (intOf i).toNat)
  case atStart => exact ⟨0, Nat.zero_le _, rfl, rfl, EP, LP, OCP⟩
  case round =>
    obtain ⟨k, hk, rfl, rfl, hE, hL, hOC⟩ := hrel
    generalize hwo : wr = wo at *
    clear hwo EP LP OCP
    by_cases hlt : k < l0
    · obtain ⟨a, ha⟩ : ∃ a, V0[k]? = some a := ⟨V0[k]'(by rw [HL0.out]; exact hlt), by simp⟩
      obtain ⟨b, hb⟩ : ∃ b, V1[k]? = some b := ⟨V1[k]'(by rw [HL1.out]; exact hlt), by simp⟩
      obtain ⟨ga, oa, rfl, _, _, za⟩ := (S0.out wo hL.out).at ha
      obtain ⟨gb, ob, rfl, _, _, zb⟩ := (S1'.out wo hL.out).at hb
      have x1 : wo.cell? ⟨ga, oa + k, none⟩ = some (.bool a) := by have := za 0 _ rfl; simpa [KB] using this
      have x2 : wo.cell? ⟨gb, ob + k, none⟩ = some (.bool b) := by have := zb 0 _ rfl; simpa [KB] using this
      have DK := Lib.hid (DG.out k a b ha hb)
      have j0 : (0 : Int) ≤ (k : Int) := by omega
      have j1 : (k : Int) < l0 := by omega
      have lc := CL.out k
      have lw := WL.out k
      obtain ⟨⟨gk, gx, gl⟩, hg⟩ : ∃ g, n.gates[k]? = some g := ⟨n.gates[k]'(by rw [HM.out]; exact hlt), by simp⟩
      obtain ⟨d, hd⟩ : ∃ d, (a != b) = d := ⟨_, rfl⟩
      have HD := Lib.hid (DK.out.trans hd)
      clear ha hb za zb
      go_upto_region 10 with fail
      go_cut [48] (fun s wx => s = .bool d ∧ Hid (Below wo.heap.size wo wx))
      case first =>
        subst hd
        cases a
        · cases b
          · go_quiet (fail)
            go_wp2_with fail
            go_meet
            exact ⟨rfl, Lib.hid (below_drewN (Below.refl _ _) _)⟩
          · go_quiet (fail)
            go_wp2_with fail
            go_meet
            exact ⟨rfl, Lib.hid (below_drewN (Below.refl _ _) _)⟩
        · cases b
          · go_quiet (fail)
            go_wp2_with fail
            go_meet
            exact ⟨rfl, Lib.hid (below_drewN (Below.refl _ _) _)⟩
          · go_quiet (fail)
            go_wp2_with fail
            go_meet
            exact ⟨rfl, Lib.hid (below_drewN (Below.refl _ _) _)⟩
      case rest =>
      generalize hww : wc = w5 at *
      clear hww x1 x2 DK hd
      obtain ⟨rfl, hq5⟩ := hcut
      have E5 := Lib.hid (hE.out.below hq5.out)
      have L5 : Hid (Lt (· = re) w3 w5) := Lib.hid (hL.out.below hq5.out)
      have OC5 : Hid (∀ o : Nat, o < 11 ∨ 13 < o → w5.cell? ⟨re, o, none⟩ = w.cell? ⟨re, o, none⟩) := Lib.hid (fun o ho => (hq5.out.cell (p := ⟨re, o, none⟩) hE.out.lt).trans (hOC.out o ho))
      clear hE hL hOC hq5
      go_upto_if 48 with fail
      go_cut [11] (fun s wx => s = .int .i64 (chN V0 V1 (k + 1) : Nat) ∧ w5 = wx)
      case first =>
        cases d
        · have e1 := Lib.hid (CN.out k HD.out)
          go_wp2_with fail
          go_meet
          exact ⟨by rw [e1.out], by first | rfl | trivial⟩
        · have e1 := Lib.hid (CY.out k HD.out)
          have c1 : -9223372036854775808 ≤ ((chN V0 V1 k : Nat) : Int) + 1 := by omega
          have c2 : ((chN V0 V1 k : Nat) : Int) + 1 ≤ 9223372036854775807 := by omega
          go_wp2_with fail
          go_meet
          exact ⟨by rw [e1.out]; rfl, by first | rfl | trivial⟩
      case rest =>
      obtain ⟨rfl, rfl⟩ := hcut
      obtain ⟨pi, ci, bb, o, egp, z2, rv⟩ := GTS.out k _ hg w5 E5.out.nn
      obtain ⟨n0, n1, n2, n3, n4, n5, n6, n7, n8, n9, n10⟩ := E5.out.net
      rw [HM.out, egp] at n0
      dsimp only at z2 rv
      have hnl : gl.length ≤ maxLen := by obtain ⟨_, h1, h2⟩ := rv.cap; exact Nat.le_trans h1 h2
      unfold maxLen at hnl
      have RD := Lib.hid (fun x (hx : x ∈ gl) => RDS.out k _ x hg hx)
      have RK : Hid (rdAt V0 V1 n k = anyK V0 V1 gl gl.length) := Lib.hid (by rw [rdat_get hg]; exact (any_all (g := (gk, gx, gl))).symm)
      have AN := Lib.hid (fun j x (hx : gl[j]? = some x) => any_next (A := V0) (B := V1) hx)
      have IR := Lib.hid (fun j x (hx : gl[j]? = some x) w' (q : Below w5.heap.size w5 w') => show ∃ g o, pi = some ⟨g, o, none⟩ ∧ w'.cell? ⟨g, o + j, none⟩ = some (.int .i64 x) from by
        obtain ⟨g, o, e1, e2, _, e4⟩ := rv.at hx
        refine ⟨g, o, e1, (q.cell (p := ⟨g, _, none⟩) (show g < w5.heap.size by have : g < B := e2; have h1 := E5.out.far; have h2 := E5.out.lt; omega)).trans ?_⟩
        have := e4 0 _ rfl
        simpa [KN] using this)
      have RA := Lib.hid (fun w' (q : Below w5.heap.size w5 w') => S0.out w' (L5.out.below q))
      have RB := Lib.hid (fun w' (q : Below w5.heap.size w5 w') => S1'.out w' (L5.out.below q))
      clear hg rv
      generalize hll : gl.length = ll at *
      have HLL := Lib.hid hll
      clear hll
      go_wp2_with fail
      clear n0 n1 n2 n3 n4 n5 n6 n7 n8 n9 n10 z2
      go_loopw [14, 15] (fun s i wq => ∃ j : Nat, j ≤ ll ∧ i = .int .i64 j ∧ s = .bool (anyK V0 V1 gl j) ∧ Hid (Below w5.heap.size w5 wq)) (fun _ i _ => ll - (intOf i).toNat)
      case atStart => exact ⟨0, Nat.zero_le _, rfl, rfl, Lib.hid (Below.refl _ _)⟩
      case round =>
        obtain ⟨j, hj, rfl, rfl, hQ⟩ := hrel
        generalize hwq : wr = wq at *
        clear hwq
        by_cases hlj : j < ll
        · obtain ⟨x, hx⟩ : ∃ x, gl[j]? = some x := ⟨gl[j]'(by rw [HLL.out]; exact hlj), by simp⟩
          obtain ⟨gi, oi, rfl, x1⟩ := IR.out j x hx wq hQ.out
          have hxr := RD.out x (List.mem_of_getElem? hx)
          have ANX := Lib.hid (AN.out j x hx)
          obtain ⟨t, rfl⟩ : ∃ t : Nat, x = (t : Int) := ⟨x.toNat, by omega⟩
          have htm : t < l0 := by omega
          obtain ⟨a2, ha⟩ : ∃ a, V0[t]? = some a := ⟨V0[t]'(by rw [HL0.out]; exact htm), by simp⟩
          obtain ⟨b2, hb⟩ : ∃ b, V1[t]? = some b := ⟨V1[t]'(by rw [HL1.out]; exact htm), by simp⟩
          obtain ⟨ga', oa', ea, _, _, za⟩ := (RA.out wq hQ.out).at ha
          obtain ⟨gb', ob', eb, _, _, zb⟩ := (RB.out wq hQ.out).at hb
          injection ea with ea
          injection ea with ea1 ea2
          injection eb with eb
          injection eb with eb1 eb2
          subst ea1 ea2 eb1 eb2
          have y1 : wq.cell? ⟨ga, oa + t, none⟩ = some (.bool a2) := by have := za 0 _ rfl; simpa [KB] using this
          have y2 : wq.cell? ⟨gb, ob + t, none⟩ = some (.bool b2) := by have := zb 0 _ rfl; simpa [KB] using this
          have DT := Lib.hid (DG.out t a2 b2 ha hb)
          have t0 : (0 : Int) ≤ (j : Int) := by omega
          have t1 : (j : Int) < ll := by omega
          have t2 : (0 : Int) ≤ (t : Int) := by omega
          have t3 : (t : Int) < l0 := by omega
          obtain ⟨c0, hc0⟩ : ∃ c0, anyK V0 V1 gl j = c0 := ⟨_, rfl⟩
          have NX : Hid (anyK V0 V1 gl (j + 1) = (c0 || (a2 != b2))) := Lib.hid (by rw [ANX.out, DT.out, hc0])
          rw [hc0]
          clear hx hxr ha hb za zb ANX DT hc0
          go_upto_region 17 with fail
          cases c0
          · cases a2
            · cases b2
              · go_quiet (fail)
                go_wp2_with fail
                go_roundw
                case rel => first | exact ⟨j + 1, by omega, by go_num, by rw [NX.out]; rfl, Lib.hid (below_drewN hQ.out _)⟩ | ((repeat (apply Exists.intro)); refine ⟨?_, rfl⟩; exact ⟨j + 1, by omega, by go_num, by rw [NX.out]; rfl, Lib.hid (below_drewN hQ.out _)⟩)
                case measure => simp [intOf] <;> omega
              · go_quiet (fail)
                go_wp2_with fail
                go_roundw
                case rel => first | exact ⟨j + 1, by omega, by go_num, by rw [NX.out]; rfl, Lib.hid (below_drewN hQ.out _)⟩ | ((repeat (apply Exists.intro)); refine ⟨?_, rfl⟩; exact ⟨j + 1, by omega, by go_num, by rw [NX.out]; rfl, Lib.hid (below_drewN hQ.out _)⟩)
                case measure => simp [intOf] <;> omega
            · cases b2
              · go_quiet (fail)
                go_wp2_with fail
                go_roundw
                case rel => first | exact ⟨j + 1, by omega, by go_num, by rw [NX.out]; rfl, Lib.hid (below_drewN hQ.out _)⟩ | ((repeat (apply Exists.intro)); refine ⟨?_, rfl⟩; exact ⟨j + 1, by omega, by go_num, by rw [NX.out]; rfl, Lib.hid (below_drewN hQ.out _)⟩)
                case measure => simp [intOf] <;> omega
              · go_quiet (fail)
                go_wp2_with fail
                go_roundw
                case rel => first | exact ⟨j + 1, by omega, by go_num, by rw [NX.out]; rfl, Lib.hid (below_drewN hQ.out _)⟩ | ((repeat (apply Exists.intro)); refine ⟨?_, rfl⟩; exact ⟨j + 1, by omega, by go_num, by rw [NX.out]; rfl, Lib.hid (below_drewN hQ.out _)⟩)
                case measure => simp [intOf] <;> omega
          · go_quiet (fail)
            go_wp2_with fail
            go_roundw
            case rel => first | exact ⟨j + 1, by omega, by go_num, by rw [NX.out]; rfl, Lib.hid (below_drewN hQ.out _)⟩ | ((repeat (apply Exists.intro)); refine ⟨?_, rfl⟩; exact ⟨j + 1, by omega, by go_num, by rw [NX.out]; rfl, Lib.hid (below_drewN hQ.out _)⟩)
            case measure => simp [intOf] <;> omega
        · obtain rfl : j = ll := by omega
          have E6 := Lib.hid (E5.out.below hQ.out)
          have L6 : Hid (Lt (· = re) w3 wq) := Lib.hid (L5.out.below hQ.out)
          have OC6 : Hid (∀ o : Nat, o < 11 ∨ 13 < o → wq.cell? ⟨re, o, none⟩ = w.cell? ⟨re, o, none⟩) := Lib.hid (fun o ho => (hQ.out.cell (p := ⟨re, o, none⟩) E5.out.lt).trans (OC5.out o ho))
          rw [← RK.out]
          obtain ⟨r, hr⟩ : ∃ r, rdAt V0 V1 n k = r := ⟨_, rfl⟩
          have HR := Lib.hid hr
          rw [hr]
          clear hr RK
          cases r
          · have e1 := Lib.hid (WN.out k HR.out)
            have E7 : Hid (Rg n h B re st ip vs vi (wkN V0 V1 n (k + 1) : Nat) wq) := Lib.hid (by rw [e1.out]; exact E6.out)
            go_wp2_with fail
            go_roundw
            case rel => first | exact ⟨k + 1, by omega, by go_num, rfl, E7, L6, OC6⟩ | ((repeat (apply Exists.intro)); refine ⟨?_, rfl⟩; exact ⟨k + 1, by omega, by go_num, rfl, E7, L6, OC6⟩)
            case measure => simp [intOf] <;> omega
          · have e1 := Lib.hid (WY.out k HR.out)
            have x13 := E6.out.c13
            have y13 := E6.out.free 13
            have ev : Hid ((((wkN V0 V1 n k : Nat) : Int) + 1) = ((wkN V0 V1 n (k + 1) : Nat) : Int)) := Lib.hid (by rw [e1.out]; rfl)
            obtain ⟨wkk, hwkk⟩ : ∃ z, wkN V0 V1 n k = z := ⟨_, rfl⟩
            rw [hwkk] at x13 lw
            have ev2 : Hid (((wkk : Nat) : Int) + 1 = ((wkN V0 V1 n (k + 1) : Nat) : Int)) := Lib.hid (by rw [← hwkk]; exact ev.out)
            have c1 : -9223372036854775808 ≤ ((wkk : Nat) : Int) + 1 := by omega
            have c2 : ((wkk : Nat) : Int) + 1 ≤ 9223372036854775807 := by omega
            have E7 : Hid (Rg n h B re st ip vs vi (wkN V0 V1 n (k + 1) : Nat) (wq.setCell ⟨re, 13, none⟩ (.int .i64 ((wkk : Int) + 1)))) := Lib.hid (by rw [ev2.out]; exact E6.out.put)
            have L7 : Hid (Lt (· = re) w3 (wq.setCell ⟨re, 13, none⟩ (.int .i64 ((wkk : Int) + 1)))) := Lib.hid (L6.out.put (p := ⟨re, 13, none⟩) (Or.inl rfl) _)
            have OC7 : Hid (∀ o : Nat, o < 11 ∨ 13 < o → (wq.setCell ⟨re, 13, none⟩ (.int .i64 ((wkk : Int) + 1))).cell? ⟨re, o, none⟩ = w.cell? ⟨re, o, none⟩) := Lib.hid (fun o ho => (World.cell?_setCell_other _ _ _ _ (by intro e; injection e with e1 e2; omega)).trans (OC6.out o ho))
            clear hwkk ev ev2 e1
            go_wp2_with fail
            go_roundw
            case rel => first | exact ⟨k + 1, by omega, by go_num, rfl, E7, L7, OC7⟩ | ((repeat (apply Exists.intro)); refine ⟨?_, rfl⟩; exact ⟨k + 1, by omega, by go_num, rfl, E7, L7, OC7⟩)
            case measure => simp [intOf] <;> omega
    · obtain rfl : k = l0 := by omega
      have x11 := hE.out.c11
      have y11 := hE.out.free 11
      have x12 : (wo.setCell ⟨re, 11, none⟩ (.slice psl st'.length csl)).cell? ⟨re, 12, none⟩ = some vi := (World.cell?_setCell_other _ _ _ _ (by intro e; injection e with e1 e2; omega)).trans hE.out.c12
      have y12 : (wo.setCell ⟨re, 11, none⟩ (.slice psl st'.length csl)).frozen? ⟨re, 12, none⟩ = false := by rw [World.frozen?_setCell]; exact hE.out.free 12
      have hBs : B ≤ w.heap.size := HB.out
      have LW : Hid (Lt (· = re) w wo) := Lib.hid (L3.out.trans hL.out)
      have hfar := hE.out.far
      have RS := Lib.hid (HS.out.keep (w' := wo) fun b o (hb : b < B) => LW.out.cell (o := o) (by omega) (by omega))
      have RI := Lib.hid (HI.out.keep (w' := wo) fun b o (hb : b < B) => LW.out.cell (o := o) (by omega) (by omega))
      have EF := Lib.hid (hE.out.puts RS.out RI.out)
      have LF : Hid (Lt (· = re) w ((wo.setCell ⟨re, 11, none⟩ (.slice psl st'.length csl)).setCell ⟨re, 12, none⟩ (.slice pil ip'.length cil))) := Lib.hid ((LW.out.put (p := ⟨re, 11, none⟩) (Or.inl rfl) _).put (p := ⟨re, 12, none⟩) (Or.inl rfl) _)
      have OF : Hid (∀ o : Nat, o < 11 ∨ 13 < o → ((wo.setCell ⟨re, 11, none⟩ (.slice psl st'.length csl)).setCell ⟨re, 12, none⟩ (.slice pil ip'.length cil)).cell? ⟨re, o, none⟩ = w.cell? ⟨re, o, none⟩) := Lib.hid (fun o ho => ((World.cell?_setCell_other _ _ _ _ (by intro e; injection e with e1 e2; omega)).trans (World.cell?_setCell_other _ _ _ _ (by intro e; injection e with e1 e2; omega))).trans (hOC.out o ho))
      clear hfar hBs
      go_wp2_with fail
      refine bodyPost_ret (v := .tuple #[.int .i64 (chN V0 V1 k : Nat), .int .i64 0]) (by simp [results, Tryz.results10, go_sem]) rfl ?_
      exact ⟨by rw [HM.out], by rw [HM.out]; exact EF.out, LF.out, OF.out⟩
end NetQs
end Go.Proofs.YtgbbpliihglijaaGreat
/- law24's operations: a state and a set of inputs. No conditions. Made by gnOp.py. -/
namespace Go.Proofs.YtgbbpliihglijaaGreat
open Go Go.RowKit Go.ChangeShapes Go.Deep
namespace NetOp
open Kit LexM TermM TermI NetM NetN NetK NetO
section
variable {H : Type} {enc : TypeId × Value → H} {W : World} {base : Nat} {sp : Nat → Bool} {held : Bool}
theorem cellsOp : Tryz.prog.cellsOf 43 = 2 := by kernel_rfl
theorem underOp : ∃ f0 f1 : Field, Tryz.prog.underlying 43 = some (.struct #[f0, f1]) ∧ f0.offset = 0 ∧ f1.offset = 1 ∧ f0.type = 25 ∧ f1.type = 25 := ⟨_, _, Tryz.underlying43, rfl, rfl, rfl, rfl⟩
set_option maxRecDepth 100000 in
theorem op_in {n : Nat} {cs : List Value} {x : DataW H × List MemPlace} (h : DataW.trod enc Tryz.prog W base sp held n 43 cs = some x) : ∃ (st ip : List Int) (vs vi : Value), cs = [vs, vi] ∧ RowE KN (· < W.heap.size) W st vs ∧ RowE KN (· < W.heap.size) W ip vi := by
  obtain ⟨f0, f1, hu, o0, o1, y0, y1⟩ := underOp
  obtain ⟨xs, k, hk, hxy, hcl, hxl, hf⟩ := DataW.trod_struct hu h
  rw [cellsOp] at hcl
  match cs, hcl with
  | [v0, v1], _ =>
    match xs, hxl with
    | [x0, x1], _ =>
      have g0 := hf 0 f0 rfl
      have g1 := hf 1 f1 rfl
      simp [o0, o1, y0, y1, cellsIs] at g0 g1
      obtain ⟨l0, u0, q0, i0⟩ := nums_in g0
      obtain ⟨l1, u1, q1, i1⟩ := nums_in g1
      injection q0 with q0 _
      injection q1 with q1 _
      subst q0 q1
      exact ⟨l0, l1, _, _, rfl, i0, i1⟩
end
set_option maxRecDepth 100000 in
theorem open_op {H : Type} {enc : TypeId × Value → H} {W : World} {b0 : Nat} {base : Nat} {sp : Nat → Bool} {held : Bool} {v : Value} {d : DataW H} {p : List MemPlace}
    (hv : Value.okWide Tryz.prog W .any b0 43 v) (h : DataW.Trod enc Tryz.prog W base sp held 43 v d p) : ∃ (st ip : List Int) (vs vi : Value), v = .agg #[vs, vi] ∧ RowE KN (· < W.heap.size) W st vs ∧ RowE KN (· < W.heap.size) W ip vi := by
  obtain ⟨f0, f1, hu, _⟩ := underOp
  obtain ⟨cs, rfl, hsz⟩ := WideShapes.okWide_struct hu hv
  obtain ⟨fuel, hf⟩ := h
  obtain ⟨st, ip, vs, vi, e, k1, k2⟩ := op_in hf
  refine ⟨st, ip, vs, vi, ?_, k1, k2⟩
  have e : cs.toList = (#[vs, vi] : Array Value).toList := by simpa [Value.cells] using e
  rw [Array.ext' e]
end NetOp
end Go.Proofs.YtgbbpliihglijaaGreat
/- Rows of law24's operations; short. No conditions. Made by gnQo.py. -/
namespace Go.Proofs.YtgbbpliihglijaaGreat
open Go Go.RowKit Go.ChangeShapes Go.Deep
namespace NetQo
open Kit TermM TermI NetM NetN NetK NetO NetOp
/-- An operation: a state, inputs, and how they lie. -/
def KOp : Ke (List Int × List Int × Value × Value) where
  ty := 43
  sz := 2
  cells x := [x.2.2.1, x.2.2.2]
  inn ok w x := RowE KN ok w x.1 x.2.2.1 ∧ RowE KN ok w x.2.1 x.2.2.2
  len _ := rfl
  keep h hf := ⟨h.1.keep hf, h.2.keep hf⟩
  wide h hk := ⟨h.1.wide hk, h.2.wide hk⟩
set_option maxRecDepth 100000 in
theorem open_ops {H : Type} {enc : TypeId × Value → H} {W : World} {b0 : Nat} {base : Nat} {sp : Nat → Bool} {held : Bool} {v : Value} {d : DataW H} {p : List MemPlace}
    (hv : Value.okWide Tryz.prog W .any b0 29 v) (h : DataW.Trod enc Tryz.prog W base sp held 29 v d p) : ∃ (l : List (List Int × List Int × Value × Value)) (u : Value), v = u ∧ RowE KOp (· < W.heap.size) W l u := by
  obtain ⟨a0, m0, c0, rfl⟩ := Go.WideShapes.okWide_slice Tryz.underlying29 hv
  obtain ⟨fuel, hf⟩ := h
  obtain ⟨l, v, e, hin⟩ := row_in KOp (T := 29) Tryz.underlying29 cellsOp (by decide) (fun _ _ _ h => by
    obtain ⟨st, ip, vs, vi, e, h1, h2⟩ := op_in h
    exact ⟨(st, ip, vs, vi), e, h1, h2⟩) hf
  simp [Value.cells] at e
  subst e
  exact ⟨l, _, rfl, hin⟩
/-- Some bool. -/
def SomeB (w : World) (e : Ending) (w' : World) : Prop := ∃ b, e = .returned (.bool b) ∧ Below w.heap.size w w'
theorem SomeB.mk {b : Bool} {w w' : World} (h : Below w.heap.size w w') : SomeB w (.returned (.bool b)) w' := ⟨b, rfl, h⟩
/-- An element of a row of operations. -/
theorem op_at {ok : Nat → Prop} {w : World} {L : List (List Int × List Int × Value × Value)} {p : Option Addr} {m c : Nat} (h : RowE KOp ok w L (.slice p m c)) {k : Nat} {x : List Int × List Int × Value × Value} (hx : L[k]? = some x) :
    ∃ g o p1 c1 p2 c2, p = some ⟨g, o, none⟩ ∧ ok g ∧ x.2.2.1 = .slice p1 x.1.length c1 ∧ x.2.2.2 = .slice p2 x.2.1.length c2 ∧ w.cell? ⟨g, o + k * 2, none⟩ = some (.slice p1 x.1.length c1) ∧ w.cell? ⟨g, o + k * 2 + 1, none⟩ = some (.slice p2 x.2.1.length c2) ∧ RowE KN ok w x.1 (.slice p1 x.1.length c1) ∧ RowE KN ok w x.2.1 (.slice p2 x.2.1.length c2) := by
  obtain ⟨g, o, e1, e2, ⟨e3, e3'⟩, e4⟩ := h.at hx
  obtain ⟨p1, c1, f1⟩ := e3.form
  obtain ⟨p2, c2, f2⟩ := e3'.form
  refine ⟨g, o, p1, c1, p2, c2, e1, e2, f1, f2, ?_, ?_, f1 ▸ e3, f2 ▸ e3'⟩
  · have := e4 0 _ rfl
    rw [f1] at this
    simpa [KOp] using this
  · have := e4 1 _ rfl
    rw [f2] at this
    simpa [KOp] using this
set_option maxRecDepth 100000 in
set_option maxHeartbeats 3200000 in
theorem short_any (l : List (List Int × List Int × Value × Value)) (w : World) (v : Value) (hl : RowE KOp (· < w.heap.size) w l v) : Calls Tryz.prog 5 #[v] w (SomeB w) := by
  obtain ⟨p, c, rfl⟩ := hl.form
  have hcap : l.length ≤ maxLen := by obtain ⟨_, h1, h2⟩ := hl.cap; omega
  unfold maxLen at hcap
  have RL := Lib.hid (fun k x (hx : l[k]? = some x) w' (q : Below w.heap.size w w') => show ∃ g o p1 c1 p2 c2, p = some ⟨g, o, none⟩ ∧ w'.cell? ⟨g, o + k * 2, none⟩ = some (.slice p1 x.1.length c1) ∧ w'.cell? ⟨g, o + k * 2 + 1, none⟩ = some (.slice p2 x.2.1.length c2) from by
    obtain ⟨g, o, p1, c1, p2, c2, e1, e2, _, _, e3, e4, _, _⟩ := op_at hl hx
    exact ⟨g, o, p1, c1, p2, c2, e1, (q.cell (p := ⟨g, _, none⟩) e2).trans e3, (q.cell (p := ⟨g, _, none⟩) e2).trans e4⟩)
  clear hl
  generalize hn : l.length = n at *
  have HN := Lib.hid hn
  clear hn
  by_cases h8 : 8 < n
  · go_enter Tryz.func5, Tryz.ntmps5
    go_wp2_with fail
    go_ret
    exact SomeB.mk (Below.refl _ _)
  go_enter Tryz.func5, Tryz.ntmps5
  go_wp2_with fail
  go_loopw [3] (fun i wr => ∃ k : Nat, k ≤ n ∧ i = .int .i64 k ∧ Hid (Below w.heap.size w wr)) (fun i _ => n - (intOf i).toNat)
  case atStart => exact ⟨0, Nat.zero_le _, rfl, Lib.hid (Below.refl _ _)⟩
  case round =>
    obtain ⟨k, hk, rfl, hD⟩ := hrel
    generalize hwo : wr = wo at *
    clear hwo
    by_cases hlt : k < n
    · obtain ⟨x, hx⟩ : ∃ x, l[k]? = some x := ⟨l[k]'(by rw [HN.out]; exact hlt), by simp⟩
      obtain ⟨g, o, p1, c1, p2, c2, rfl, x1, x2⟩ := RL.out k x hx wo hD.out
      have j0 : (0 : Int) ≤ (k : Int) := by omega
      have j1 : (k : Int) < n := by omega
      obtain ⟨t, ht⟩ : ∃ t, IntKind.i64.wrap ((x.1.length : Int) + (x.2.1.length : Int)) = t := ⟨_, rfl⟩
      generalize x.1.length = n1 at *
      generalize x.2.1.length = n2 at *
      clear hx
      by_cases h40 : t > 40
      · have h41 : decide (t > 40) = true := decide_eq_true h40
        have h42 : decide ((40 : Int) < t) = true := decide_eq_true h40
        go_upto_region 6 with fail
        go_quiet (fail)
        go_wp2_with fail
        go_ret
        exact SomeB.mk (below_drewN hD.out _)
      · have h41 : decide (t > 40) = false := decide_eq_false h40
        have h42 : decide ((40 : Int) < t) = false := decide_eq_false h40
        go_upto_region 6 with fail
        go_quiet (fail)
        go_wp2_with fail
        go_roundw
        case rel => first | exact ⟨k + 1, by omega, by go_num, Lib.hid (below_drewN hD.out _)⟩ | ((repeat (apply Exists.intro)); refine ⟨?_, rfl⟩; exact ⟨k + 1, by omega, by go_num, Lib.hid (below_drewN hD.out _)⟩)
        case measure => simp [intOf] <;> omega
    · obtain rfl : k = n := by omega
      go_wp2_with fail
      go_ret
      exact SomeB.mk hD.out
end NetQo
end Go.Proofs.YtgbbpliihglijaaGreat
/- The walk of DeltaRuns. No conditions. Made by gnQl.py. -/
namespace Go.Proofs.YtgbbpliihglijaaGreat
open Go Go.RowKit
namespace NetQl
open Kit TermM TermI TermH NetM NetN NetK NetA NetC NetI NetMk NetNu NetOk NetEv NetBo NetMb NetVv NetS NetDn NetDp NetEm NetLt NetDx NetDw NetDs NetDt NetDe NetEg NetSb NetDz NetSl NetSz NetSa NetDa NetQa NetQe NetQs NetQo
set_option maxRecDepth 100000 in
set_option maxHeartbeats 3200000 in
theorem new_no (n : Nt) (h : Nh) (B : Nat) (w : World) (hB : B ≤ w.heap.size) (k : NetIn (· < B) w n h) (hz : SzN n) (hc : chkN groundB n ≠ 0) :
    Calls Tryz.prog 7 #[.agg #[.slice h.gp n.gates.length h.gc, .slice h.rp n.roles.length h.rc, .slice h.bp n.bases.length h.bc, .slice h.ip n.inputs.length h.ic, .slice h.ap n.initial.length h.ac, .slice h.np n.next.length h.nc, .slice h.lp n.legal.length h.lc, .slice h.op n.goals.length h.oc, .slice h.sp n.sees.length h.sc, .int .i64 n.last, .bool n.hid]] w fun e w' => e = .returned (.tuple #[.pointer none, .int .i64 13]) ∧ Below w.heap.size w w' := by
  obtain ⟨W1, hW1⟩ : ∃ z, z = w.alloc (.cells #[.slice h.gp n.gates.length h.gc, .slice h.rp n.roles.length h.rc, .slice h.bp n.bases.length h.bc, .slice h.ip n.inputs.length h.ic, .slice h.ap n.initial.length h.ac, .slice h.np n.next.length h.nc, .slice h.lp n.legal.length h.lc, .slice h.op n.goals.length h.oc, .slice h.sp n.sees.length h.sc, .int .i64 n.last, .bool n.hid] 28) := ⟨_, rfl⟩
  have K1 : Hid (Below w.heap.size w W1) := Lib.hid (by rw [hW1]; exact below_alloc _ _)
  have H1 : Hid (Has W1 w.heap.size (netC n h)) := Lib.hid (by rw [hW1]; exact Has.new _ _ _)
  have hzz := K1.out.size
  have KW := Lib.hid (fun w' (q : Below W1.heap.size W1 w') => show Below w.heap.size w w' from K1.out.trans (q.mono hzz))
  have NK := Lib.hid (fun w' (q : Below W1.heap.size W1 w') => k.deep (KW.out w' q) hB)
  have HQ := Lib.hid (fun w' (q : Below W1.heap.size W1 w') => hasN (H1.out.step0 q))
  have RV := Lib.hid (values_any n h [] [] B W1 (.slice none 0 0) (.slice none 0 0) (Nat.le_trans hB hzz) (NK.out W1 (Below.refl _ _)) hz (RowE.nil _ _) (RowE.nil _ _))
  rw [ev_net (st := []) (ip := []) hc] at RV
  obtain ⟨q1, q2, q3, q4, q5, q6, q7, q8, q9, q10, q11⟩ := HQ.out W1 (Below.refl _ _)
  clear k hz hc
  go_enter Tryz.func7, Tryz.ntmps7
  go_upto_region 1 with fail
  rw [← hW1]
  clear hW1
  go_wp2_with fail
  refine RV.out.mono ?_
  rintro e w2 ⟨v2, rfl, r2, g2⟩
  have DF := Lib.hid (KW.out _ g2)
  obtain ⟨p2, c2, rfl⟩ := r2.form
  clear r2 g2 RV q1 q2 q3 q4 q5 q6 q7 q8 q9 q10 q11
  go_wp2_with fail
  refine bodyPost_ret (v := .tuple #[.pointer none, .int .i64 13]) (by simp [results, Tryz.results7, go_sem]) rfl ?_
  exact ⟨rfl, DF.out⟩
/-- The reference's Set, at any numbers. -/
theorem rset_run (n : Nt) (h : Nh) (B re : Nat) (st ip st' ip' : List Int) (vs vi us ui : Value) (k : Int) (w : World) (E : Rg n h B re st ip vs vi k w) (hz : SzN n) (hck : chkN groundB n = 0) (b0 : numsB st n.bases.length = true ∧ numsB ip n.inputs.length = true) (hs : RowE KN (· < B) w st' us) (hi : RowE KN (· < B) w ip' ui) :
    Calls Tryz.prog 10 #[.pointer (some ⟨re, 0, none⟩), us, ui] w (SetR n h B re st ip st' ip' k w) := by
  cases h1 : numsB st' n.bases.length
  · refine (rset_bad n h B re st ip st' ip' vs vi us ui k 14 w E hz (ev_st hck h1) (by decide) hs hi).mono ?_
    rintro e w' ⟨rfl, q⟩
    unfold SetR
    rw [run_14 h1]
    exact ⟨rfl, ⟨_, _, E.below q⟩, Lt.of q, fun o _ => q.cell (p := ⟨re, o, none⟩) E.lt⟩
  · cases h2 : numsB ip' n.inputs.length
    · refine (rset_bad n h B re st ip st' ip' vs vi us ui k 15 w E hz (ev_ip hck h1 h2) (by decide) hs hi).mono ?_
      rintro e w' ⟨rfl, q⟩
      unfold SetR
      rw [run_15 h1 h2]
      exact ⟨rfl, ⟨_, _, E.below q⟩, Lt.of q, fun o _ => q.cell (p := ⟨re, o, none⟩) E.lt⟩
    · refine (rset_ok n h B re st ip st' ip' vs vi us ui k w E hz hck b0 ⟨h1, h2⟩ hs hi).mono ?_
      rintro e w' ⟨rfl, q1, q2, q3⟩
      unfold SetR
      rw [run_ok h1 h2]
      exact ⟨rfl, ⟨_, _, q1⟩, q2, q3⟩
theorem set_hid {f : Tm → Bool} {n : Nt} {B ge gb gv : Nat} {RV : List Value} {st ip st0 ip0 : List Int} {wk : Int} {w : World} {r : Int × Int × List Int × List Int × Int} (hr : runC n st0 ip0 wk st ip = r) (hck : chkN f n = 0) (hb : n.bases.length ≤ 1000000) (hi : n.inputs.length ≤ 1000000) {vs vi : Value} (h : Eg2 n B RV ge gb gv st0 ip0 wk w)
    (hs : RowE KN (· < w.heap.size) w st vs) (hip : RowE KN (· < w.heap.size) w ip vi) : Calls Tryz.prog 9 #[.pointer (some ⟨ge, 0, none⟩), vs, vi] w fun e w' =>
      e = .returned (.tuple #[.int .i64 r.1, .int .i64 r.2.1]) ∧ Hid (Eg2 n B RV ge gb gv r.2.2.1 r.2.2.2.1 r.2.2.2.2 w') ∧ Hid (Lt (ex3 ge gb gv) w w') := by
  subst hr
  exact (set_run hck hb hi h hs hip).mono fun _ _ h => ⟨h.1, Lib.hid h.2.1, Lib.hid h.2.2⟩
theorem rset_hid {n : Nt} {h : Nh} {B re : Nat} {st ip st' ip' : List Int} {vs vi us ui : Value} {k : Int} {w : World} {r : Int × Int × List Int × List Int × Int} (hr : runC n st ip k st' ip' = r) (E : Rg n h B re st ip vs vi k w) (hz : SzN n) (hck : chkN groundB n = 0) (b0 : numsB st n.bases.length = true ∧ numsB ip n.inputs.length = true) (hs : RowE KN (· < B) w st' us) (hi : RowE KN (· < B) w ip' ui) :
    Calls Tryz.prog 10 #[.pointer (some ⟨re, 0, none⟩), us, ui] w fun e w' => e = .returned (.tuple #[.int .i64 r.1, .int .i64 r.2.1]) ∧ (∃ ws wi, Hid (Rg n h B re r.2.2.1 r.2.2.2.1 ws wi r.2.2.2.2 w')) ∧ Hid (Lt (· = re) w w') ∧ Hid (∀ o : Nat, o < 11 ∨ 13 < o → w'.cell? ⟨re, o, none⟩ = w.cell? ⟨re, o, none⟩) := by
  subst hr
  refine (rset_run n h B re st ip st' ip' vs vi us ui k w E hz hck b0 hs hi).mono ?_
  rintro e w' ⟨q0, ⟨ws, wi, q1⟩, q2, q3⟩
  exact ⟨q0, ⟨ws, wi, Lib.hid q1⟩, Lib.hid q2, Lib.hid q3⟩
/-- No bool of the reference's engine is touched. -/
theorem no_bool {n : Nt} {h : Nh} {B re : Nat} {st ip : List Int} {vs vi : Value} {k : Int} {w w' : World} (E : Rg n h B re st ip vs vi k w) (hc : ∀ o : Nat, o < 11 ∨ 13 < o → w'.cell? ⟨re, o, none⟩ = w.cell? ⟨re, o, none⟩) : ∀ (o : Nat) (x : Bool), w.cell? ⟨re, o, none⟩ = some (.bool x) → w'.cell? ⟨re, o, none⟩ = some (.bool x) := by
  intro o x hx
  by_cases h1 : o < 11 ∨ 13 < o
  · exact (hc o h1).trans hx
  · exfalso
    obtain ⟨p1, c1, e1⟩ := E.rs.form
    obtain ⟨p2, c2, e2⟩ := E.ri.form
    have h11 := E.c11
    have h12 := E.c12
    have h13 := E.c13
    rw [e1] at h11
    rw [e2] at h12
    rcases (show o = 11 ∨ o = 12 ∨ o = 13 by omega) with rfl | rfl | rfl
    · rw [h11] at hx
      cases hx
    · rw [h12] at hx
      cases hx
    · rw [h13] at hx
      cases hx
/-- A row of bools in every later world. -/
def StB (L : List Bool) (w : World) (v : Value) : Prop := ∀ z, Below w.heap.size w z → RowE KB (· < z.heap.size) z L v
theorem StBo {B : Nat} {L : List Bool} {w : World} {v : Value} (h : RowE KB (fun b => B ≤ b ∧ b < w.heap.size) w L v) : StB L w v := fun _ q => (h.keep fun b o hb => q.cell (p := ⟨b, o, none⟩) hb.2).wide fun _ hb => Nat.lt_of_lt_of_le hb.2 q.size
theorem StB.step {L : List Bool} {w w' : World} {v : Value} (h : StB L w v) (q : Below w.heap.size w w') : StB L w' v := fun z k => h z (q.trans (k.mono q.size))
set_option maxRecDepth 100000 in
set_option maxHeartbeats 12800000 in
theorem law (n : Nt) (h : Nh) (l : List (List Int × List Int × Value × Value)) (g : Int) (w : World) (vl : Value) (k : NetIn (· < w.heap.size) w n h) (hl : RowE KOp (· < w.heap.size) w l vl) :
    Calls Tryz.prog 3 #[.agg #[.slice h.gp n.gates.length h.gc, .slice h.rp n.roles.length h.rc, .slice h.bp n.bases.length h.bc, .slice h.ip n.inputs.length h.ic, .slice h.ap n.initial.length h.ac, .slice h.np n.next.length h.nc, .slice h.lp n.legal.length h.lc, .slice h.op n.goals.length h.oc, .slice h.sp n.sees.length h.sc, .int .i64 n.last, .bool n.hid], vl, .int .i64 g] w fun e w' => e = .returned (.bool true) ∧ Below w.heap.size w w' := by
  obtain ⟨Wb, hWb⟩ : ∃ z, z = w.alloc (.cells #[.slice h.gp n.gates.length h.gc, .slice h.rp n.roles.length h.rc, .slice h.bp n.bases.length h.bc, .slice h.ip n.inputs.length h.ic, .slice h.ap n.initial.length h.ac, .slice h.np n.next.length h.nc, .slice h.lp n.legal.length h.lc, .slice h.op n.goals.length h.oc, .slice h.sp n.sees.length h.sc, .int .i64 n.last, .bool n.hid] 28) := ⟨_, rfl⟩
  have BB : Hid (Below w.heap.size w Wb) := Lib.hid (by rw [hWb]; exact below_alloc _ _)
  have H1 : Hid (Has Wb w.heap.size (netC n h)) := Lib.hid (by rw [hWb]; exact Has.new _ _ _)
  have hzB := BB.out.size
  have KW := Lib.hid (fun w' (q : Below Wb.heap.size Wb w') => show Below w.heap.size w w' from BB.out.trans (q.mono hzB))
  have NK := Lib.hid (fun w' (q : Below Wb.heap.size Wb w') => k.deep (KW.out w' q) (Nat.le_refl _))
  have HQ := Lib.hid (fun w' (q : Below Wb.heap.size Wb w') => hasN (H1.out.step0 q))
  have SM := Lib.hid (fun w' (q : Below Wb.heap.size Wb w') => NetSl.law_small n h w.heap.size w' (KW.out w' q).size (NK.out w' q))
  have NW := Lib.hid (fun w' (q : Below Wb.heap.size Wb w') => (NK.out w' q).wide fun b hb => Nat.lt_of_lt_of_le hb (KW.out w' q).size)
  have RW := Lib.hid (fun w' (q : Below Wb.heap.size Wb w') => hl.keep (w' := w') fun b o (hb : b < w.heap.size) => (KW.out w' q).cell (p := ⟨b, o, none⟩) hb)
  have SH := Lib.hid (fun w' (q : Below Wb.heap.size Wb w') => short_any l w' vl ((RW.out w' q).wide fun b hb => Nat.lt_of_lt_of_le hb (KW.out w' q).size))
  obtain ⟨pl, cl, rfl⟩ := hl.form
  have hlm : l.length ≤ maxLen := by obtain ⟨_, h1, h2⟩ := hl.cap; exact Nat.le_trans h1 h2
  unfold maxLen at hlm
  have RL := Lib.hid (fun (k : Nat) x (hx : l[k]? = some x) w' (q : Below Wb.heap.size Wb w') => op_at (RW.out w' q) hx)
  have D0 : Hid (Below Wb.heap.size Wb Wb) := Lib.hid (Below.refl _ _)
  clear k hl RW
  generalize hchk : chkN groundB n = ck at *
  have HCK := Lib.hid hchk
  clear hchk
  obtain ⟨LL, hLL⟩ : ∃ z, z = l.length := ⟨_, rfl⟩
  rw [← hLL] at hlm SH ⊢
  have HLL := Lib.hid hLL
  clear hLL
  go_enter Tryz.func3, Tryz.ntmps3
  go_upto_region 1 with fail
  rw [← hWb]
  clear hWb
  have C1 := Lib.hid (SM.out Wb D0.out)
  obtain ⟨q1, q2, q3, q4, q5, q6, q7, q8, q9, q10, q11⟩ := HQ.out Wb D0.out
  go_wp2_with fail
  refine C1.out.mono ?_
  rintro e w1 ⟨b1, rfl, s1, g1⟩
  have J1 : Hid (Below Wb.heap.size Wb w1) := Lib.hid g1
  have D1 : Hid (Below Wb.heap.size Wb w1) := Lib.hid (next0 D0.out g1)
  have S1 := Lib.hid s1
  clear s1
  clear g1 C1 q1 q2 q3 q4 q5 q6 q7 q8 q9 q10 q11
  cases b1
  · have C2 := Lib.hid (alive_any w1)
    go_wp2_with fail
    refine C2.out.mono ?_
    rintro e w2 ⟨rfl, g2⟩
    have J2 : Hid (Below w1.heap.size w1 w2) := Lib.hid g2
    have D2 : Hid (Below Wb.heap.size Wb w2) := Lib.hid (next0 D1.out g2)
    clear g2 C2
    have DF := Lib.hid (KW.out _ D2.out)
    go_wp2_with fail
    go_ret
    exact ⟨rfl, DF.out⟩
  have ZN := Lib.hid (sz_of (S1.out rfl))
  clear S1
  have C2 := Lib.hid (SH.out w1 D1.out)
  go_wp2_with fail
  refine C2.out.mono ?_
  rintro e w2 ⟨b2, rfl, g2⟩
  have J2 : Hid (Below w1.heap.size w1 w2) := Lib.hid g2
  have D2 : Hid (Below Wb.heap.size Wb w2) := Lib.hid (next0 D1.out g2)
  clear g2 C2
  cases b2
  · have C3 := Lib.hid (alive_any w2)
    go_wp2_with fail
    refine C3.out.mono ?_
    rintro e w3 ⟨rfl, g3⟩
    have J3 : Hid (Below w2.heap.size w2 w3) := Lib.hid g3
    have D3 : Hid (Below Wb.heap.size Wb w3) := Lib.hid (next0 D2.out g3)
    clear g3 C3
    have DF := Lib.hid (KW.out _ D3.out)
    go_wp2_with fail
    go_ret
    exact ⟨rfl, DF.out⟩
  clear SM SH
  have WB2 : Hid (Wb.heap.size ≤ w2.heap.size) := Lib.hid D2.out.size
  by_cases hc : ck = 0
  rotate_left
  · have N3 := Lib.hid (new_no n h w2.heap.size w2 (Nat.le_refl _) (NW.out w2 D2.out) ZN.out (by rw [HCK.out]; exact hc))
    obtain ⟨q1, q2, q3, q4, q5, q6, q7, q8, q9, q10, q11⟩ := HQ.out w2 D2.out
    go_wp2_with fail
    refine N3.out.mono ?_
    rintro e w3 ⟨rfl, g3⟩
    have D3 : Hid (Below Wb.heap.size Wb w3) := Lib.hid (next0 D2.out g3)
    have N4 := Lib.hid (rnew_any n h w3.heap.size w3 (Nat.le_refl _) (NW.out w3 D3.out) ZN.out)
    clear g3 N3 q1 q2 q3 q4 q5 q6 q7 q8 q9 q10 q11
    obtain ⟨q1, q2, q3, q4, q5, q6, q7, q8, q9, q10, q11⟩ := HQ.out w3 D3.out
    go_wp2_with fail
    refine N4.out.mono ?_
    rintro e w4 ⟨g4, (⟨_, rfl⟩ | ⟨hx, _⟩)⟩
    rotate_left
    · exact absurd (HCK.out.symm.trans hx) hc
    have D4 : Hid (Below Wb.heap.size Wb w4) := Lib.hid (next0 D3.out g4)
    have CA := Lib.hid (alive_any w4)
    clear g4 N4 hc q1 q2 q3 q4 q5 q6 q7 q8 q9 q10 q11
    go_wp2_with fail
    refine CA.out.mono ?_
    rintro e w5 ⟨rfl, g5⟩
    have DF := Lib.hid (KW.out _ (next0 D4.out g5))
    clear g5 CA
    go_wp2_with fail
    go_ret
    exact ⟨rfl, DF.out⟩
  have CKN : Hid (chkN groundB n = 0) := Lib.hid (HCK.out.trans hc)
  clear hc HCK
  have OK := Lib.hid (nok CKN.out)
  have hnb : Hid (n.bases.length ≤ 1000000) := Lib.hid (by have := OK.out.next; have := ZN.out.next; omega)
  have hni : Hid (n.inputs.length ≤ 1000000) := Lib.hid (by have := OK.out.legal; have := ZN.out.legal; omega)
  have hng : Hid (n.gates.length ≤ 1000000) := Lib.hid (by have := OK.out.few; omega)
  have C3 := Lib.hid (new_eg h (NW.out w2 D2.out) ZN.out CKN.out)
  obtain ⟨q1, q2, q3, q4, q5, q6, q7, q8, q9, q10, q11⟩ := HQ.out w2 D2.out
  go_wp2_with fail
  refine C3.out.mono ?_
  rintro e w3 ⟨ge, gb, gv, rfl, hE, g3⟩
  obtain ⟨RV, hE2, hRB⟩ := Eg.two hE
  have E3 := Lib.hid hE2
  have RBd := Lib.hid hRB
  have D3 : Hid (Below Wb.heap.size Wb w3) := Lib.hid (next0 D2.out g3)
  have GL := Lib.hid (Eg.lts hE)
  clear hE hE2 hRB g3 C3 q1 q2 q3 q4 q5 q6 q7 q8 q9 q10 q11
  have N4 := Lib.hid (rnew_any n h w.heap.size w3 (KW.out _ D3.out).size (NK.out w3 D3.out) ZN.out)
  obtain ⟨q1, q2, q3, q4, q5, q6, q7, q8, q9, q10, q11⟩ := HQ.out w3 D3.out
  go_wp2_with fail
  refine N4.out.mono ?_
  rintro e w4 ⟨g4, (⟨hx, _⟩ | ⟨_, re, rfl, hre, hR⟩)⟩
  · exact absurd CKN.out hx
  have R4 := Lib.hid hR
  have HRE := Lib.hid hre
  have D4 : Hid (Below Wb.heap.size Wb w4) := Lib.hid (next0 D3.out g4)
  have E4 := Lib.hid (E3.out.below g4)
  have W24 : Hid (w2.heap.size ≤ w4.heap.size) := Lib.hid (by have := E3.out.2.1; have := GL.out.1; have := g4.size; omega)
  have WW2 : Hid (w.heap.size ≤ w2.heap.size) := Lib.hid (by have := WB2.out; omega)
  clear g4 hR hre N4 E3 D3 q1 q2 q3 q4 q5 q6 q7 q8 q9 q10 q11
  have NX3 : Hid (¬ ex3 ge gb gv re) := Lib.hid (fun e => by have := GL.out; have := HRE.out; rcases e with e | e | e <;> omega)
  have NB3 : Hid (∀ b, b < w.heap.size → ¬ ex3 ge gb gv b) := Lib.hid (fun b hb e => by have := E4.out.2; have := WW2.out; rcases e with e | e | e <;> omega)
  have LD := Lib.hid (fun (x y : World) (st0 ip0 : List Int) (k0 : Int) (e : Eg2 n w2.heap.size RV ge gb gv st0 ip0 k0 x) (hx : w2.heap.size ≤ x.heap.size) (l : Lt (ex3 ge gb gv) x y) (d : Below Wb.heap.size Wb x) => show Below Wb.heap.size Wb y from d.trans ((e.eg.lt hx l).mono WB2.out))
  have LE := Lib.hid (fun (x y : World) (l : Lt (· = re) x y) (hx : Wb.heap.size ≤ x.heap.size) (hr : Wb.heap.size ≤ re) (d : Below Wb.heap.size Wb x) => show Below Wb.heap.size Wb y from d.trans (l.toBelow hx (fun i hi => by rw [hi]; exact hr)))
  have HRW : Hid (Wb.heap.size ≤ re) := Lib.hid (by have := HRE.out; have := E4.out.2.1; have := GL.out.1; have := WB2.out; omega)
  have NU0 : Hid (numsB [] n.bases.length = true ∧ numsB [] n.inputs.length = true) := Lib.hid ⟨rfl, rfl⟩
  have FORMS : Hid (∃ p1 c1 p2 c2, (Value.slice none 0 0) = .slice p1 ([] : List Int).length c1 ∧ (Value.slice none 0 0) = .slice p2 ([] : List Int).length c2) := Lib.hid ⟨_, _, _, _, rfl, rfl⟩
  clear FORMS
  go_wp2_with fail
  go_loopw [11] (fun i wr => ∃ (k : Nat) (z : Int) (st ip : List Int) (wk : Int) (vs vi : Value), k ≤ LL + 1 ∧ i = .int .i64 z ∧ Hid (z = (k : Int) - 1) ∧ Hid (numsB st n.bases.length = true ∧ numsB ip n.inputs.length = true) ∧ Hid (Eg2 n w2.heap.size RV ge gb gv st ip wk wr) ∧ Hid (Rg n h w.heap.size re st ip vs vi wk wr) ∧ Hid (Below Wb.heap.size Wb wr) ∧ Hid (w2.heap.size ≤ wr.heap.size)) (fun i _ => (LL - intOf i).toNat)
  case atStart => exact ⟨0, -1, [], [], 0, .slice none 0 0, .slice none 0 0, Nat.zero_le _, rfl, Lib.hid (by omega), NU0, E4, R4, D4, W24⟩
  case round =>
    obtain ⟨k, z, st, ip, wk, vs, vi, hk, rfl, hz, hN, hE, hR, hD, hS⟩ := hrel
    generalize hwo : wr = wo at *
    clear hwo E4 R4 D4 W24
    by_cases hlt : z < LL
    · have z1 : -1 ≤ z := by have := hz.out; omega
      have HZ2 : Hid (k + 1 ≤ LL + 1 ∧ z + 1 = ((k + 1 : Nat) : Int) - 1) := Lib.hid (by have := hz.out; omega)
      clear hz
      go_upto_if 63 with fail
      go_cut [101] (fun _ wx => ∃ (st ip : List Int) (wk : Int) (vs vi : Value), Hid (numsB st n.bases.length = true ∧ numsB ip n.inputs.length = true) ∧ Hid (Eg2 n w2.heap.size RV ge gb gv st ip wk wx) ∧ Hid (Rg n h w.heap.size re st ip vs vi wk wx) ∧ Hid (Below Wb.heap.size Wb wx) ∧ Hid (w2.heap.size ≤ wx.heap.size))
      case first =>
        by_cases hz0 : 0 ≤ z
        rotate_left
        · have i2 : ¬ z ≥ 0 := hz0
          go_wp2_with fail
          go_meet
          exact ⟨st, ip, wk, vs, vi, hN, hE, hR, hD, hS⟩
        obtain ⟨j, rfl⟩ : ∃ j : Nat, z = (j : Int) := ⟨z.toNat, by omega⟩
        have i2 : (j : Int) ≥ 0 := hz0
        have hjl : j < LL := by omega
        obtain ⟨x, hx⟩ : ∃ x, l[j]? = some x := ⟨l[j]'(by rw [← HLL.out]; exact hjl), by simp⟩
        obtain ⟨gg, oo, p1, c1, p2, c2, rfl, hgg, f1, f2, _, _, _, _⟩ := RL.out j x hx wo hD.out
        have CZ := Lib.hid (fun w' (q : Below Wb.heap.size Wb w') => show (w'.cell? ⟨gg, oo + j * 2, none⟩ = some (.slice p1 x.1.length c1) ∧ w'.cell? ⟨gg, oo + j * 2 + 1, none⟩ = some (.slice p2 x.2.1.length c2)) ∧ RowE KN (· < w.heap.size) w' x.1 (.slice p1 x.1.length c1) ∧ RowE KN (· < w.heap.size) w' x.2.1 (.slice p2 x.2.1.length c2) from by
          obtain ⟨g', o', p1', c1', p2', c2', e, _, k1, k2, h1, h2, h3, h4⟩ := RL.out j x hx w' q
          injection e with e
          injection e with e1 e2
          subst e1 e2
          have a1 := f1.symm.trans k1
          have a2 := f2.symm.trans k2
          injection a1 with a1 _ a3
          injection a2 with a2 _ a4
          subst a1 a2 a3 a4
          exact ⟨⟨h1, h2⟩, h3, h4⟩)
        obtain ⟨rc, hrc⟩ : ∃ r, runC n st ip wk x.1 x.2.1 = r := ⟨_, rfl⟩
        have NR : Hid (numsB rc.2.2.1 n.bases.length = true ∧ numsB rc.2.2.2.1 n.inputs.length = true) := Lib.hid (by rw [← hrc]; exact run_in hN.out)
        have HRC := Lib.hid hrc
        have CS := Lib.hid (fun w' (q : Below wo.heap.size wo w') => set_hid (w := w') HRC.out CKN.out hnb.out hni.out (hE.out.below q) ((CZ.out w' (next0 hD.out q)).2.1.wide fun b hb => Nat.lt_of_lt_of_le hb (KW.out w' (next0 hD.out q)).size) ((CZ.out w' (next0 hD.out q)).2.2.wide fun b hb => Nat.lt_of_lt_of_le hb (KW.out w' (next0 hD.out q)).size))
        have CT := Lib.hid (fun w' (F : Rg n h w.heap.size re st ip vs vi wk w') (q : Below Wb.heap.size Wb w') => rset_hid (w := w') HRC.out F ZN.out CKN.out hN.out (CZ.out w' q).2.1 (CZ.out w' q).2.2)
        have C2 := Lib.hid (fun w' (q : Below Wb.heap.size Wb w') => (CZ.out w' q).1)
        clear hrc hx f1 f2 CZ
        generalize x.1.length = n1 at *
        generalize x.2.1.length = n2 at *
        have j0 : (0 : Int) ≤ (j : Int) := by omega
        have j1 : (j : Int) < LL := by omega
        obtain ⟨rc1, hr1⟩ : ∃ r, rc.1 = r := ⟨_, rfl⟩
        obtain ⟨rc2, hr2⟩ : ∃ r, rc.2.1 = r := ⟨_, rfl⟩
        rw [hr1, hr2] at CS CT
        clear hr1 hr2
        go_upto_region 11 with fail
        go_cut [12, 13] (fun s t wx => s = .int .i64 rc1 ∧ t = .int .i64 rc2 ∧ Hid (Eg2 n w2.heap.size RV ge gb gv rc.2.2.1 rc.2.2.2.1 rc.2.2.2.2 wx) ∧ Hid (Lt (ex3 ge gb gv) wo wx) ∧ Hid (Below Wb.heap.size Wb wx))
        case first =>
          have hq0 : Hid (Below wo.heap.size wo wo.drew) := Lib.hid (Below.refl _ _).drew
          have hq1 : Hid (Below Wb.heap.size Wb wo.drew) := Lib.hid hD.out.drew
          obtain ⟨y1, y2⟩ := C2.out _ hq1.out
          go_region_held3 (fun w' => w'.cell? ⟨gg, oo + j * 2, none⟩ = some (.slice p1 n1 c1) ∧ w'.cell? ⟨gg, oo + j * 2 + 1, none⟩ = some (.slice p2 n2 c2))
            (first | (with_reducible assumption) | (with_reducible exact ⟨‹_›, ‹_›⟩) | (with_reducible refine C2.out _ ?_; repeat (first | (with_reducible exact Hid.out (by assumption)) | (with_reducible exact Below.refl _ _) | (with_reducible refine Below.drew ?_))))
            (first | (go_at_call 9; (try go_split_ands); refine (CS.out _ (by repeat (first | (with_reducible exact Hid.out (by assumption)) | (with_reducible exact Below.refl _ _) | (with_reducible refine Below.drew ?_)))).mono ?_; rintro e w5 ⟨rfl, E5, L5⟩; (have Q5 : Below wo.heap.size wo _ := (by repeat (first | (with_reducible exact Hid.out (by assumption)) | (with_reducible exact Below.refl _ _) | (with_reducible refine Below.drew ?_)))); have T5 : Hid (Lt (ex3 ge gb gv) wo w5) := Lib.hid ((Lt.of Q5).trans L5.out); have D5 : Hid (Below Wb.heap.size Wb w5) := Lib.hid (LD.out _ _ _ _ _ hE.out hS.out T5.out hD.out); obtain ⟨y1, y2⟩ := C2.out _ D5.out))
          all_goals
            go_wp2_with fail
            go_meet
            exact ⟨rfl, rfl, E5, T5, D5⟩
        case rest =>
        generalize hww : wc = w5 at *
        clear hww
        obtain ⟨rfl, rfl, E5, T5, D5⟩ := hcut
        have R5 := Lib.hid (hR.out.lts T5.out NX3.out NB3.out)
        have S5 : Hid (w2.heap.size ≤ w5.heap.size) := Lib.hid (Nat.le_trans hS.out T5.out.size)
        have CT5 := Lib.hid (fun w' (q : Below w5.heap.size w5 w') => CT.out w' (R5.out.below q) (next0 D5.out q))
        go_upto_region 12 with fail
        go_cut [14, 15] (fun s t wx => s = .int .i64 rc1 ∧ t = .int .i64 rc2 ∧ (∃ ws wi, Hid (Rg n h w.heap.size re rc.2.2.1 rc.2.2.2.1 ws wi rc.2.2.2.2 wx)) ∧ Hid (Lt (· = re) w5 wx) ∧ Hid (∀ o : Nat, o < 11 ∨ 13 < o → wx.cell? ⟨re, o, none⟩ = w5.cell? ⟨re, o, none⟩))
        case first =>
          have hq0 : Hid (Below w5.heap.size w5 w5.drew) := Lib.hid (Below.refl _ _).drew
          have hq1 : Hid (Below Wb.heap.size Wb w5.drew) := Lib.hid D5.out.drew
          obtain ⟨y1, y2⟩ := C2.out _ hq1.out
          go_region_held3 (fun w' => w'.cell? ⟨gg, oo + j * 2, none⟩ = some (.slice p1 n1 c1) ∧ w'.cell? ⟨gg, oo + j * 2 + 1, none⟩ = some (.slice p2 n2 c2))
            (first | (with_reducible assumption) | (with_reducible exact ⟨‹_›, ‹_›⟩) | (with_reducible refine C2.out _ ?_; repeat (first | (with_reducible exact Hid.out (by assumption)) | (with_reducible exact Below.refl _ _) | (with_reducible refine Below.drew ?_))))
            (first | (go_at_call 10; (try go_split_ands); refine (CT5.out _ (by repeat (first | (with_reducible exact Hid.out (by assumption)) | (with_reducible exact Below.refl _ _) | (with_reducible refine Below.drew ?_)))).mono ?_; rintro e w6 ⟨rfl, ⟨ws, wi, R6⟩, L6, O6⟩; (have Q5 : Below w5.heap.size w5 _ := (by repeat (first | (with_reducible exact Hid.out (by assumption)) | (with_reducible exact Below.refl _ _) | (with_reducible refine Below.drew ?_)))); have T6 : Hid (Lt (· = re) w5 w6) := Lib.hid ((Lt.of Q5).trans L6.out); have P6 : Hid (∀ o : Nat, o < 11 ∨ 13 < o → w6.cell? ⟨re, o, none⟩ = w5.cell? ⟨re, o, none⟩) := Lib.hid (fun o ho => (O6.out o ho).trans (Q5.cell (p := ⟨re, o, none⟩) R5.out.lt)); have D6 : Hid (Below Wb.heap.size Wb w6) := Lib.hid (LE.out _ _ T6.out (Nat.le_trans WB2.out S5.out) HRW.out D5.out); obtain ⟨y1, y2⟩ := C2.out _ D6.out))
          all_goals
            go_wp2_with fail
            go_meet
            exact ⟨rfl, rfl, ⟨ws, wi, R6⟩, T6, P6⟩
        case rest =>
        generalize hww : wc = w6 at *
        clear hww
        obtain ⟨rfl, rfl, ⟨ws, wi, R6⟩, T6, P6⟩ := hcut
        have E6 := Lib.hid (E5.out.past RBd.out T6.out GL.out HRE.out (no_bool R5.out P6.out))
        have D6 := Lib.hid (LE.out _ _ T6.out (Nat.le_trans WB2.out S5.out) HRW.out D5.out)
        have S6 : Hid (w2.heap.size ≤ w6.heap.size) := Lib.hid (Nat.le_trans S5.out T6.out.size)
        clear CS CT CT5 C2 E5 R5 T5 T6 P6 D5 S5 hE hR hD hS hN
        go_wp2_with fail
        go_meet
        exact ⟨rc.2.2.1, rc.2.2.2.1, rc.2.2.2.2, ws, wi, NR, E6, R6, D6, S6⟩
      case rest =>
      generalize hww : wc = w7 at *
      clear hww hE hR hD hS hN
      obtain ⟨st2, ip2, wk2, us, ui, N7, E7, R7, D7, S7⟩ := hcut
      obtain ⟨pu, cu, rfl⟩ := R7.out.rs.form
      obtain ⟨pi, ci, rfl⟩ := R7.out.ri.form
      have C8 := Lib.hid (state_eg hnb.out hni.out N7.out E7.out.eg)
      go_wp2_with fail
      refine C8.out.mono ?_
      rintro e w8 ⟨u8, v8, rfl, hu, hv, g8⟩
      have U8 := Lib.hid hu
      have V8 := Lib.hid hv
      obtain ⟨p8, d8, rfl⟩ := (hu w8 (Below.refl _ _)).form
      obtain ⟨q8, f8, rfl⟩ := (hv w8 (Below.refl _ _)).form
      have E8 := Lib.hid (E7.out.below g8)
      have R8 := Lib.hid (R7.out.below g8)
      have D8 := Lib.hid (next0 D7.out g8)
      have S8 : Hid (w2.heap.size ≤ w8.heap.size) := Lib.hid (Nat.le_trans S7.out g8.size)
      clear hu hv g8 C8 E7 R7 D7 S7
      have C9 := Lib.hid (rstate_any n h w.heap.size re st2 ip2 _ _ wk2 w8 R8.out)
      go_wp2_with fail
      refine C9.out.mono ?_
      rintro e w9 ⟨rfl, g9⟩
      have E9 := Lib.hid (E8.out.below g9)
      have R9 := Lib.hid (R8.out.below g9)
      have D9 := Lib.hid (next0 D8.out g9)
      have S9 : Hid (w2.heap.size ≤ w9.heap.size) := Lib.hid (Nat.le_trans S8.out g9.size)
      have U9 := Lib.hid (U8.out.step g9)
      have V9 := Lib.hid (V8.out.step g9)
      clear g9 C9 E8 R8 D8 S8 U8 V8
      have VA := Lib.hid (values_eg hng.out E9.out.eg)
      go_wp2_with fail
      refine VA.out.mono ?_
      rintro e w10 ⟨v10, rfl, r10, g10⟩
      have B10 := Lib.hid (NetQl.StBo r10)
      obtain ⟨pv10, cv10, rfl⟩ := r10.form
      have E10 := Lib.hid (E9.out.below g10)
      have R10 := Lib.hid (R9.out.below g10)
      have D10 := Lib.hid (next0 D9.out g10)
      have U10 := Lib.hid (U9.out.step g10)
      have V10 := Lib.hid (V9.out.step g10)
      have S10 : Hid (w2.heap.size ≤ w10.heap.size) := Lib.hid (Nat.le_trans S9.out g10.size)
      clear VA g10 E9 R9 D9 U9 V9 S9 r10
      have VA := Lib.hid (rvals_any n h w.heap.size re st2 ip2 _ _ wk2 w10 R10.out ZN.out CKN.out N7.out)
      go_wp2_with fail
      refine VA.out.mono ?_
      rintro e w11 ⟨v11, rfl, r11, g11⟩
      have B11 := Lib.hid (NetQl.StBo r11)
      obtain ⟨pv11, cv11, rfl⟩ := r11.form
      have E11 := Lib.hid (E10.out.below g11)
      have R11 := Lib.hid (R10.out.below g11)
      have D11 := Lib.hid (next0 D10.out g11)
      have U11 := Lib.hid (U10.out.step g11)
      have V11 := Lib.hid (V10.out.step g11)
      have S11 : Hid (w2.heap.size ≤ w11.heap.size) := Lib.hid (Nat.le_trans S10.out g11.size)
      have B10' := Lib.hid (B10.out.step g11)
      clear VA g11 E10 R10 D10 U10 V10 S10 r11
      have VA := Lib.hid (bools_eq _ w11 _ _ (B10'.out w11 (Below.refl _ _)) (B11.out w11 (Below.refl _ _)))
      go_wp2_with fail
      refine VA.out.mono ?_
      rintro e w12 ⟨rfl, g12⟩
      have E12 := Lib.hid (E11.out.below g12)
      have R12 := Lib.hid (R11.out.below g12)
      have D12 := Lib.hid (next0 D11.out g12)
      have U12 := Lib.hid (U11.out.step g12)
      have V12 := Lib.hid (V11.out.step g12)
      have S12 : Hid (w2.heap.size ≤ w12.heap.size) := Lib.hid (Nat.le_trans S11.out g12.size)
      clear VA g12 E11 R11 D11 U11 V11 S11
      clear B10 B10' B11
      have VA := Lib.hid (value_eg g hng.out E12.out.eg)
      go_wp2_with fail
      refine VA.out.mono ?_
      rintro e w13 ⟨rfl, rfl⟩
      clear VA
      have VA := Lib.hid (rvalue_any n h w.heap.size re st2 ip2 _ _ wk2 g w12 R12.out ZN.out CKN.out N7.out)
      go_wp2_with fail
      refine VA.out.mono ?_
      rintro e w13 ⟨rfl, g13⟩
      have E13 := Lib.hid (E12.out.below g13)
      have R13 := Lib.hid (R12.out.below g13)
      have D13 := Lib.hid (next0 D12.out g13)
      have U13 := Lib.hid (U12.out.step g13)
      have V13 := Lib.hid (V12.out.step g13)
      have S13 : Hid (w2.heap.size ≤ w13.heap.size) := Lib.hid (Nat.le_trans S12.out g13.size)
      clear VA g13 E12 R12 D12 U12 V12 S12
      have VA := Lib.hid (work_eg E13.out.eg)
      go_wp2_with fail
      refine VA.out.mono ?_
      rintro e w14 ⟨rfl, rfl⟩
      clear VA
      have VA := Lib.hid (rwork_any n h w.heap.size re st2 ip2 _ _ wk2 w13 R13.out)
      go_wp2_with fail
      refine VA.out.mono ?_
      rintro e w14 ⟨rfl, rfl⟩
      clear VA
      have VA := Lib.hid (ints_eq st2 w13 _ _ (U13.out w13 (Below.refl _ _)) (R13.out.rs.wide fun b hb => Nat.lt_of_lt_of_le hb (KW.out w13 D13.out).size))
      go_wp2_with fail
      refine VA.out.mono ?_
      rintro e w14 ⟨rfl, g14⟩
      have E14 := Lib.hid (E13.out.below g14)
      have R14 := Lib.hid (R13.out.below g14)
      have D14 := Lib.hid (next0 D13.out g14)
      have U14 := Lib.hid (U13.out.step g14)
      have V14 := Lib.hid (V13.out.step g14)
      have S14 : Hid (w2.heap.size ≤ w14.heap.size) := Lib.hid (Nat.le_trans S13.out g14.size)
      clear VA g14 E13 R13 D13 U13 V13 S13
      have VA := Lib.hid (ints_eq ip2 w14 _ _ (V14.out w14 (Below.refl _ _)) (R14.out.ri.wide fun b hb => Nat.lt_of_lt_of_le hb (KW.out w14 D14.out).size))
      go_wp2_with fail
      refine VA.out.mono ?_
      rintro e w15 ⟨rfl, g15⟩
      have E15 := Lib.hid (E14.out.below g15)
      have R15 := Lib.hid (R14.out.below g15)
      have D15 := Lib.hid (next0 D14.out g15)
      have U15 := Lib.hid (U14.out.step g15)
      have V15 := Lib.hid (V14.out.step g15)
      have S15 : Hid (w2.heap.size ≤ w15.heap.size) := Lib.hid (Nat.le_trans S14.out g15.size)
      clear VA g15 E14 R14 D14 U14 V14 S14
      have z2 : -9223372036854775808 ≤ z + 1 := by omega
      have z3 : z + 1 ≤ 9223372036854775807 := by omega
      go_wp2_with fail
      go_roundw
      case rel => first | exact ⟨k + 1, z + 1, st2, ip2, wk2, _, _, HZ2.out.1, rfl, Lib.hid HZ2.out.2, N7, E15, R15, D15, S15⟩ | ((repeat (apply Exists.intro)); refine ⟨?_, rfl⟩; exact ⟨k + 1, z + 1, st2, ip2, wk2, _, _, HZ2.out.1, rfl, Lib.hid HZ2.out.2, N7, E15, R15, D15, S15⟩)
      case measure => simp [intOf] <;> omega
    · have CA := Lib.hid (alive_any wo)
      have KE := Lib.hid (KW.out wo hD.out)
      go_wp2_with fail
      refine CA.out.mono ?_
      rintro e w9 ⟨rfl, g9⟩
      have DF := Lib.hid (next0 KE.out g9)
      clear g9 CA
      go_wp2_with fail
      go_ret
      exact ⟨rfl, DF.out⟩
end NetQl
end Go.Proofs.YtgbbpliihglijaaGreat
/- DeltaRuns: for all networks, operations and gates the law that an engine runs as its definition says returns true. No conditions. -/
namespace Go.Proofs.YtgbbpliihglijaaGreat.deltaRuns
open Go Go.ChangeShapes Go.WideShapes Go.ChangeAt Go.RowKit
open Go.Proofs.YtgbbpliihglijaaGreat Go.Proofs.YtgbbpliihglijaaGreat.Kit

theorem own : ownKnob Tryz.prog.godebug = none := by kernel_rfl
theorem laidOut : laidOutB Tryz.prog = true := by kernel_rfl
theorem hpar : ∀ t ∈ Tryz.f3.params.toList, Tryz.prog.readableRec t = true ∧ t < Tryz.prog.types.size := by
  have hq : ∀ t ∈ [28, 29, 3], Tryz.prog.readableRec t = true ∧ t < Tryz.prog.types.size := by
    intro t ht
    simp at ht
    rcases ht with rfl | rfl | rfl
    all_goals exact ⟨by kernel_rfl, of_decide_eq_true (by kernel_rfl)⟩
  rw [Tryz.params3]
  exact hq
theorem hrt : Tryz.f3.resultTypes = #[4] := by kernel_rfl
set_option maxRecDepth 100000 in
theorem lifted (os : Os) (started : os.Started) (H : Type) (enc : TypeId × Value → H) :
    ReturnsInHanded {} Tryz.checked os 3 .any (Rows.deltaRunsSpec.pre6 enc Tryz.prog Tryz.f3 Rows.deltaRunsRow.domain false) (Rows.deltaRunsSpec.post enc Tryz.prog Tryz.f3 false true false false) := by
  refine returnsInHanded_of_change (C := Tryz.checked) own started (by kernel_rfl) Tryz.func3
    (ChangeSpec.witness6 (enc := enc) (C := Tryz.checked) false ⟨#[], #[.agg #[.slice none 0 0, .slice none 0 0, .slice none 0 0, .slice none 0 0, .slice none 0 0, .slice none 0 0, .slice none 0 0, .slice none 0 0, .slice none 0 0, .int .i64 0, .bool false], .slice none 0 0, .int .i64 0], []⟩ 8 (by kernel_rfl) (by kernel_rfl) (by kernel_rfl) (by kernel_rfl)) ?_
  intro W base args ds gs before hval0 hW hcnd _
  have hval : ∀ (j : Nat) t v, Tryz.f3.params[j]? = some t → args[j]? = some v → Value.okWide Tryz.prog W .any base t v := hval0
  have hW' := hW
  obtain ⟨p, q, hA0, hV, rfl, hfz, hnd⟩ := hW
  have hA : DataW.TrodAll enc Tryz.prog W 0 (fun _ => true) true Tryz.f3.params.toList args.toList ds p := hA0
  rw [Tryz.params3] at hA hval
  obtain ⟨v0, vs0, d0, ds0, p0, q0, hargs, rfl, rfl, h0, r0⟩ := trodAll_cons hA
  obtain ⟨v1, vs1, d1, ds1, p1, q1, rfl, rfl, rfl, h1, r1⟩ := trodAll_cons r0
  obtain ⟨v2, vs2, d2, ds2, p2, q2, rfl, rfl, rfl, h2, r2⟩ := trodAll_cons r1
  obtain ⟨rfl, rfl, rfl⟩ := trodAll_nil r2
  obtain rfl : args = #[v0, v1, v2] := Array.ext' hargs
  obtain ⟨rfl, rfl⟩ := trodVars_none hV
  obtain ⟨n, h, rfl, k⟩ := NetO.open_net (hval 0 28 v0 rfl rfl) h0
  obtain ⟨l, u, rfl, hl⟩ := NetQo.open_ops (hval 1 29 v1 rfl rfl) h1
  obtain ⟨g, rfl⟩ := Go.WideShapes.okWide_int Tryz.underlying3 (hval 2 3 v2 rfl rfl)
  have walk := NetQl.law n h l g W _ k hl
  refine walk.mono fun e W' ⟨he, bel⟩ => ?_
  subst he
  exact ⟨_, rfl, law_post 4 laidOut hpar hrt Tryz.underlying4 hW' rfl ⟨rfl, rfl, rfl⟩ bel⟩
theorem over : Rows.deltaRunsRow.holds Tryz.pinned (OpenSpec.ofChange Rows.deltaRunsSpec) :=
  OpenClaim.holds_of_wide 3 Tryz.f3 rfl rfl rfl rfl rfl rfl rfl ⟨rfl, rfl, rfl, rfl, rfl⟩ rfl rfl rfl rfl rfl (by kernel_rfl) Tryz.func3 (by kernel_rfl)
    (of_decide_eq_true (by kernel_rfl)) (by unfold Func.isWrapper; first | (rw [if_pos (by decide +kernel)]; kernel_rfl) | (rw [if_neg (by decide +kernel)]; exact ⟨rfl, rfl⟩))
    (fun os started H enc _ => lifted os started H enc)
/-- ████ THE STATEMENT ████ -/
theorem proved : Rows.DeltaRunsSaid := over
#print axioms proved
end Go.Proofs.YtgbbpliihglijaaGreat.deltaRuns
