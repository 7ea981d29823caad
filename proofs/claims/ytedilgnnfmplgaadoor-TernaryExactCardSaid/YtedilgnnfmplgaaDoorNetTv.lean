/- ternary.Values: the three-valued values of all gates, or the error. Conditions: those of the package's Check; the tables are as laid. Made by gnTv.py. -/
import Derived.Test.YtedilgnnfmplgaaDoorNetTf
import Derived.Test.YtedilgnnfmplgaaDoorNetS
namespace Go.Proofs.YtedilgnnfmplgaaDoor
open Go Go.RowKit
namespace NetTv
open Kit LexM TermM TermI TermH NetM NetN NetK NetA NetC NetI NetMk NetOk NetEv NetS NetTn NetTt NetTm NetTf
theorem lin0 {n : Nt} {i : Nat} {g : Gt} (ok : GOk n i g) (h4 : g.1 ≠ 4) (h5 : g.1 ≠ 5) (h6 : g.1 ≠ 6) : g.2.2 = [] := by
  have en := ok.en
  unfold readsB at en
  rw [if_neg h6, if_neg (by omega), decide_eq_true_eq] at en
  exact List.eq_nil_of_length_eq_zero en
theorem tg_low {n : Nt} {i : Nat} {g : Gt} {bs is V : List Int} (ok : GOk n i g) (h4 : g.1 ≠ 4) (h5 : g.1 ≠ 5) (h6 : g.1 ≠ 6) : tgN bs is V g = tinit bs is g := by
  unfold tgN
  rw [lin0 ok h4 h5 h6]
  rfl
theorem tg_0 {n : Nt} {i : Nat} {g : Gt} {bs is V : List Int} (ok : GOk n i g) (h : g.1 = 0) : tgN bs is V g = 0 := by
  rw [tg_low ok (by omega) (by omega) (by omega)]
  unfold tinit
  rw [if_neg (by omega), if_neg (by omega), if_neg (by omega)]
theorem tg_1 {n : Nt} {i : Nat} {g : Gt} {bs is V : List Int} (ok : GOk n i g) (h : g.1 = 1) : tgN bs is V g = 1 := by
  rw [tg_low ok (by omega) (by omega) (by omega)]
  unfold tinit
  rw [if_neg (by omega), if_neg (by omega), if_pos (by omega)]
theorem tg_2 {n : Nt} {i : Nat} {g : Gt} {bs is V : List Int} (ok : GOk n i g) (h : g.1 = 2) : tgN bs is V g = tv (tAt bs g.2.1) := by
  rw [tg_low ok (by omega) (by omega) (by omega)]
  unfold tinit
  rw [if_pos h]
theorem tg_3 {n : Nt} {i : Nat} {g : Gt} {bs is V : List Int} (ok : GOk n i g) (h : g.1 = 3) : tgN bs is V g = tv (tAt is g.2.1) := by
  rw [tg_low ok (by omega) (by omega) (by omega)]
  unfold tinit
  rw [if_neg (by omega), if_pos h]
theorem tg_4 {g : Gt} {bs is V : List Int} (h : g.1 = 4) : tgN bs is V g = tfold 4 V 1 g.2.2 := by
  unfold tgN tinit
  rw [if_neg (by omega), if_neg (by omega), if_pos (by omega), h]
theorem tg_5 {g : Gt} {bs is V : List Int} (h : g.1 = 5) : tgN bs is V g = tfold 5 V 0 g.2.2 := by
  unfold tgN tinit
  rw [if_neg (by omega), if_neg (by omega), if_neg (by omega), h]
theorem tg_6 {g : Gt} {bs is V : List Int} {x y : Int} (h : g.1 = 6) (h1 : g.2.2.length = 1) (hx : g.2.2[0]? = some x) (hy : tAt V x = y) : tgN bs is V g = tnot y := by
  obtain ⟨k, t, l⟩ := g
  dsimp only at *
  subst h
  match l, h1 with
  | [z], _ =>
    injection hx with hx
    subst hx hy
    rfl
theorem padt_next {bs is : List Int} {l : List Gt} {k m : Nat} {g : Gt} {x : Int} (hm : l.length = m) (hg : l[k]? = some g) (hk : k < m) (hb : tgN bs is (tvalsTo bs is l k) g = x) : (numV (padT (tvalsTo bs is l k) m)).set k (.int .i64 x) = numV (padT (tvalsTo bs is l (k + 1)) m) := by
  have hl := tvals_len bs is l (k := k) (by omega)
  have e := padt_set (V := tvalsTo bs is l k) (m := m) (by omega) x
  rw [hl] at e
  rw [tnumv_set, e, tvals_next bs is l hg, hb]
theorem padt_tg {bs is : List Int} {n : Nt} {k m : Nat} {g : Gt} (hm : n.gates.length = m) (hk : k < m) (ok : GOk n k g) : tgN bs is (padT (tvalsTo bs is n.gates k) m) g = tgN bs is (tvalsTo bs is n.gates k) g := by
  have hl := tvals_len bs is n.gates (k := k) (by omega)
  exact tg_congr (fun x hx => padt_at (ok.rd x hx).1 (by rw [hl]; exact (ok.rd x hx).2))
set_option maxRecDepth 100000 in
set_option maxHeartbeats 6400000 in
theorem values_any (n : Nt) (h : Nh) (bs is : List Int) (B : Nat) (w : World) (vs vi : Value) (hB : B ≤ w.heap.size) (k : NetIn (· < B) w n h) (hz : SzN n) (hs : RowE KN (· < B) w bs vs) (hi : RowE KN (· < B) w is vi) (ht : Tb w) :
    Calls Tryd.prog 17 #[.agg #[.slice h.gp n.gates.length h.gc, .slice h.rp n.roles.length h.rc, .slice h.bp n.bases.length h.bc, .slice h.ip n.inputs.length h.ic, .slice h.ap n.initial.length h.ac, .slice h.np n.next.length h.nc, .slice h.lp n.legal.length h.lc, .slice h.op n.goals.length h.oc, .slice h.sp n.sees.length h.sc, .int .i64 n.last, .bool n.hid], vs, vi] w (IntE (tvV groundB bs is n) (tvE groundB bs is n) w) := by
  obtain ⟨W1, hW1⟩ : ∃ z, z = w.alloc (.cells #[.slice h.gp n.gates.length h.gc, .slice h.rp n.roles.length h.rc, .slice h.bp n.bases.length h.bc, .slice h.ip n.inputs.length h.ic, .slice h.ap n.initial.length h.ac, .slice h.np n.next.length h.nc, .slice h.lp n.legal.length h.lc, .slice h.op n.goals.length h.oc, .slice h.sp n.sees.length h.sc, .int .i64 n.last, .bool n.hid] 32) := ⟨_, rfl⟩
  have K1 : Hid (Below w.heap.size w W1) := Lib.hid (by rw [hW1]; exact below_alloc _ _)
  have H1 : Hid (Has W1 w.heap.size (netC n h)) := Lib.hid (by rw [hW1]; exact Has.new _ _ _)
  have hzz := K1.out.size
  have KW := Lib.hid (fun w' (q : Below W1.heap.size W1 w') => show Below w.heap.size w w' from K1.out.trans (q.mono hzz))
  have NK := Lib.hid (fun w' (q : Below W1.heap.size W1 w') => k.deep (KW.out w' q) hB)
  have HQ := Lib.hid (fun w' (q : Below W1.heap.size W1 w') => hasN (H1.out.step0 q))
  have hlen : n.gates.length ≤ maxLen := by obtain ⟨_, h1, h2⟩ := k.gates.cap; omega
  unfold maxLen at hlen
  have F13 : Hid (chkN groundB n ≠ 0 → tvE groundB bs is n = 13 ∧ tvV groundB bs is n = []) := Lib.hid (fun e => ⟨te_net e, tvv_no (te_net e)⟩)
  have F14 : Hid (chkN groundB n = 0 → bs.length ≠ n.bases.length → tvE groundB bs is n = 13 ∧ tvV groundB bs is n = []) := Lib.hid (fun e e2 => ⟨te_bs e e2, tvv_no (te_bs e e2)⟩)
  have F15 : Hid (chkN groundB n = 0 → bs.length = n.bases.length → is.length ≠ n.inputs.length → tvE groundB bs is n = 13 ∧ tvV groundB bs is n = []) := Lib.hid (fun e e2 e3 => ⟨te_is e e2 e3, tvv_no (te_is e e2 e3)⟩)
  have F0 : Hid (chkN groundB n = 0 → bs.length = n.bases.length → is.length = n.inputs.length → tvE groundB bs is n = 0 ∧ tvV groundB bs is n = tvalsN bs is n) := Lib.hid (fun e e2 e3 => ⟨te_ok e e2 e3, tvv_ok (te_ok e e2 e3)⟩)
  have OKN : Hid (chkN groundB n = 0 → NOk n) := Lib.hid nok
  have RS := Lib.hid (fun w' (q : Below W1.heap.size W1 w') => hs.keep (w' := w') fun b o (hb : b < B) => (KW.out w' q).cell (p := ⟨b, o, none⟩) (Nat.lt_of_lt_of_le hb hB))
  have RI := Lib.hid (fun w' (q : Below W1.heap.size W1 w') => hi.keep (w' := w') fun b o (hb : b < B) => (KW.out w' q).cell (p := ⟨b, o, none⟩) (Nat.lt_of_lt_of_le hb hB))
  have TB := Lib.hid (fun w' (q : Below W1.heap.size W1 w') => ht.below (KW.out w' q))
  have CK := Lib.hid (fun w' (q : Below W1.heap.size W1 w') => check_any n h B w' (Nat.le_trans hB (KW.out w' q).size) (NK.out w' q) hz)
  have HB := Lib.hid hB
  have VAL := Lib.hid (tvals_all bs is n)
  have VLN := Lib.hid (tvalsn_len bs is n)
  obtain ⟨psl, csl, rfl⟩ := hs.form
  obtain ⟨pil, cil, rfl⟩ := hi.form
  have GTS0 := Lib.hid (fun k g (hg : n.gates[k]? = some g) w' (q : Below W1.heap.size W1 w') => show ∃ v b o, h.gp = some ⟨b, o, none⟩ ∧ w'.cell? ⟨b, o + k * 3, none⟩ = some (.int .i64 g.1) ∧ w'.cell? ⟨b, o + k * 3 + 1, none⟩ = some (.int .i64 g.2.1) ∧ w'.cell? ⟨b, o + k * 3 + 2, none⟩ = some v ∧ RowE KN (· < B) w' g.2.2 v from by
    obtain ⟨v, b, o, e1, _, e3, e4⟩ := (NK.out w' q).gates.at hg
    exact ⟨v, b, o, e1, by have := e4 0 _ rfl; simpa [KG] using this, by have := e4 1 _ rfl; simpa [KG] using this, by have := e4 2 _ rfl; simpa [KG] using this, e3.1⟩)
  have IVS0 := Lib.hid (readn (RS.out W1 (Below.refl _ _)) (fun b (hb : b < B) => Nat.lt_of_lt_of_le (Nat.lt_of_lt_of_le hb hB) hzz))
  have IVI0 := Lib.hid (readn (RI.out W1 (Below.refl _ _)) (fun b (hb : b < B) => Nat.lt_of_lt_of_le (Nat.lt_of_lt_of_le hb hB) hzz))
  clear k hz hs hi ht RS RI NK
  generalize tvV groundB bs is n = S at *
  generalize tvE groundB bs is n = er at *
  generalize chkN groundB n = c at *
  generalize hbl : bs.length = lb at *
  generalize hil : is.length = li at *
  generalize hnb : n.bases.length = nb at *
  generalize hni : n.inputs.length = ni at *
  have HBL := Lib.hid hbl
  have HIL := Lib.hid hil
  have HNB := Lib.hid hnb
  have HNI := Lib.hid hni
  clear hbl hil hnb hni
  obtain ⟨q1, q2, q3, q4, q5, q6, q7, q8, q9, q10, q11⟩ := HQ.out W1 (Below.refl _ _)
  have C1 := Lib.hid (CK.out W1 (Below.refl _ _))
  clear CK
  go_enter Tryd.func17, Tryd.ntmps17
  go_upto_region 1 with fail
  rw [← hW1]
  clear hW1
  go_wp2_with fail
  refine C1.out.mono ?_
  rintro e wx ⟨rfl, g4⟩
  have D4 := Lib.hid (next0 (Below.refl W1.heap.size W1) g4)
  have DD4 := Lib.hid (KW.out _ D4.out)
  clear g4 C1 q1 q2 q3 q4 q5 q6 q7 q8 q9 q10 q11
  obtain ⟨q1, q2, q3, q4, q5, q6, q7, q8, q9, q10, q11⟩ := HQ.out wx D4.out
  by_cases hc : c = 0
  rotate_left
  · have e0 := Lib.hid (F13.out hc)
    have i1 : (c != 0) = true := by simp [hc]
    clear F13 F14 F15 F0 OKN hc
    go_wp2_with fail
    refine bodyPost_ret (v := .tuple #[.slice none 0 0, .int .i64 13]) (by simp [results, Tryd.results17, go_sem]) rfl ?_
    exact IntE.no e0.out DD4.out
  have i1 : (c != 0) = false := by simp [hc]
  have F14a := Lib.hid (F14.out hc)
  have F15a := Lib.hid (F15.out hc)
  have F0a := Lib.hid (F0.out hc)
  have OKa := Lib.hid (OKN.out hc)
  clear F13 F14 F15 F0 OKN hc
  by_cases h2 : lb = nb
  rotate_left
  · have e0 := Lib.hid (F14a.out h2)
    have i2 : ((lb : Int) != (nb : Int)) = true := by simp; omega
    clear F14a F15a F0a h2
    go_wp2_with fail
    refine bodyPost_ret (v := .tuple #[.slice none 0 0, .int .i64 13]) (by simp [results, Tryd.results17, go_sem]) rfl ?_
    exact IntE.no e0.out DD4.out
  have F15b := Lib.hid (F15a.out h2)
  have F0b := Lib.hid (F0a.out h2)
  subst h2
  clear F14a F15a F0a
  by_cases h3 : li = ni
  rotate_left
  · have e0 := Lib.hid (F15b.out h3)
    have i2 : ((li : Int) != (ni : Int)) = true := by simp; omega
    clear F15b F0b h3
    go_wp2_with fail
    refine bodyPost_ret (v := .tuple #[.slice none 0 0, .int .i64 13]) (by simp [results, Tryd.results17, go_sem]) rfl ?_
    exact IntE.no e0.out DD4.out
  have F0c := Lib.hid (F0b.out h3)
  subst h3
  clear F15b F0b
  have hg16 : n.gates.length ≤ 16384 := OKa.out.few
  obtain ⟨wm, M, O, G⟩ := make_i wx n.gates.length (by omega)
  have O0 : Hid (wm.ownsRow wx.heap.size 3 1 (.slice (some ⟨wx.heap.size, 0, none⟩) n.gates.length n.gates.length) n.gates.length (numV (padT (tvalsTo bs is n.gates 0) n.gates.length))) := Lib.hid (by
    rw [show tvalsTo bs is n.gates 0 = [] from rfl, padt_nil]
    exact O)
  have B0 := Lib.hid ((Below.refl wx.heap.size wx).grown G (Nat.le_refl _) (fun k h => by cases h))
  have hz7 := DD4.out.size
  have hzB : B ≤ wx.heap.size := Nat.le_trans HB.out hz7
  have SV : Hid (S = tvalsN bs is n) := Lib.hid F0c.out.2
  have RV : Hid (er = 0) := Lib.hid F0c.out.1
  have qm := (HQ.out wm (next0 D4.out B0.out)).1
  have GTS := Lib.hid (fun k g (hg : n.gates[k]? = some g) w' (q : Below wx.heap.size wx w') => GTS0.out k g hg w' (next0 D4.out q))
  have IVS := Lib.hid (fun j x (hx : bs[j]? = some x) w' (q : Below wx.heap.size wx w') => IVS0.out j x hx w' (next0 D4.out q))
  have IVI := Lib.hid (fun j x (hx : is[j]? = some x) w' (q : Below wx.heap.size wx w') => IVI0.out j x hx w' (next0 D4.out q))
  have TBX := Lib.hid (fun w' (q : Below wx.heap.size wx w') => TB.out w' (next0 D4.out q))
  clear O G F0c GTS0 IVS0 IVI0 TB
  generalize hgm : n.gates.length = m at *
  have HM := Lib.hid hgm
  clear hgm
  generalize hg0 : wx.heap.size = g0 at *
  have HG0 := Lib.hid hg0
  clear hg0
  go_wp2_with fail
  clear qm q1 q2 q3 q4 q5 q6 q7 q8 q9 q10 q11
  generalize h.gp = gp at *
  go_loopw [37] (fun i wr => ∃ k : Nat, k ≤ m ∧ i = .int .i64 k ∧ Hid (wr.ownsRow g0 3 1 (.slice (some ⟨g0, 0, none⟩) m m) m (numV (padT (tvalsTo bs is n.gates k) m))) ∧ Hid (Below g0 wx wr)) (fun i _ => m - (intOf i).toNat)
  case atStart => exact ⟨0, Nat.zero_le _, rfl, O0, B0⟩
  case round =>
    obtain ⟨k, hk, rfl, hO, hD⟩ := hrel
    have hzr := hD.out.size
    have hzg := HG0.out
    by_cases hlt : k < m
    · obtain ⟨⟨gk, gx, gl⟩, hg⟩ : ∃ g, n.gates[k]? = some g := ⟨n.gates[k]'(by rw [HM.out]; exact hlt), by simp⟩
      obtain ⟨v, b, o, rfl, c0, c1, c2, rv⟩ := GTS.out k _ hg wr hD.out
      obtain ⟨p, c, rfl⟩ := rv.form
      have OKG := Lib.hid (OKa.out.gate k _ hg)
      have PN := Lib.hid (fun x => padt_next (bs := bs) (is := is) (x := x) HM.out hg hlt)
      have PG := Lib.hid (padt_tg (bs := bs) (is := is) HM.out hlt OKG.out)
      have PL : Hid ((padT (tvalsTo bs is n.gates k) m).length = m) := Lib.hid (padt_len (by rw [tvals_len _ _ _ (by rw [HM.out]; exact hk)]; exact hk))
      have PF : Hid ((numV (padT (tvalsTo bs is n.gates k) m))[k]? = some (.int .i64 0)) := Lib.hid (tnumv_get (padt_get (tvals_len _ _ _ (by rw [HM.out]; exact hk)) hlt))
      have PI : Hid (∀ x ∈ padT (tvalsTo bs is n.gates k) m, I64 x) := Lib.hid (fun x hx => t3_i64 (padt_i64 (tto_t3 bs is n.gates k) x hx))
      have T0 := Lib.hid (tg_0 (bs := bs) (is := is) (V := tvalsTo bs is n.gates k) OKG.out)
      have T1 := Lib.hid (tg_1 (bs := bs) (is := is) (V := tvalsTo bs is n.gates k) OKG.out)
      have T2 := Lib.hid (tg_2 (bs := bs) (is := is) (V := tvalsTo bs is n.gates k) OKG.out)
      have T3' := Lib.hid (tg_3 (bs := bs) (is := is) (V := tvalsTo bs is n.gates k) OKG.out)
      have T4 := Lib.hid (tg_4 (bs := bs) (is := is) (V := padT (tvalsTo bs is n.gates k) m) (g := (gk, gx, gl)))
      have T5 := Lib.hid (tg_5 (bs := bs) (is := is) (V := padT (tvalsTo bs is n.gates k) m) (g := (gk, gx, gl)))
      have T6 := Lib.hid (fun x y => tg_6 (bs := bs) (is := is) (V := padT (tvalsTo bs is n.gates k) m) (g := (gk, gx, gl)) (x := x) (y := y))
      rw [PG.out] at T4 T5 T6
      have j0 : (0 : Int) ≤ (k : Int) := by omega
      have j1 : (k : Int) < m := by omega
      obtain ⟨W3, hW3⟩ : ∃ z, z = wr.alloc (.cells #[.int .i64 gk, .int .i64 gx, .slice p gl.length c] 57) := ⟨_, rfl⟩
      have J3 : Hid (Below wr.heap.size wr W3) := Lib.hid (by rw [hW3]; exact below_alloc _ _)
      have H3 : Has W3 wr.heap.size #[.int .i64 gk, .int .i64 gx, .slice p gl.length c] := by rw [hW3]; exact Has.new _ _ _
      have O3 := Lib.hid (own_below hO.out J3.out)
      have D3 : Hid (Below g0 wx W3) := Lib.hid (hD.out.trans (J3.out.mono (by omega)))
      have RV3 := Lib.hid (rv.keep (w' := W3) fun b o (hb : b < B) => J3.out.cell (p := ⟨b, o, none⟩) (show b < wr.heap.size by omega))
      have RP3 : Hid (RowE KN (fun b => g0 ≤ b ∧ b < W3.heap.size) W3 (padT (tvalsTo bs is n.gates k) m) (.slice (some ⟨g0, 0, none⟩) m m)) := Lib.hid (own_row (by rw [PL.out]; exact O3.out) PI.out)
      have y1 := H3.cell 0
      have y2 := H3.cell 1
      have y3 := H3.cell 2
      have TB3 := Lib.hid (TBX.out W3 D3.out)
      clear hg rv H3 PG PI
      have CAP : Hid (gl.length ≤ maxLen) := Lib.hid (by obtain ⟨_, h1, h2⟩ := RV3.out.cap; exact Nat.le_trans h1 h2)
      generalize hgl : gl.length = nl at *
      have HGL := Lib.hid hgl
      clear hgl hzr hzg
      go_upto_region 7 with fail
      rw [← hW3]
      clear hW3 c0 c1 c2
      have x1 := (O3.out.cellAt k (by omega)).trans PF.out
      have x2 := O3.out.frozenAt k
      have PF2 := Lib.hid PF.out
      clear PF
      by_cases k0 : gk = 0
      · have i0 : (gk == 0) = true := by simp [k0]
        have S1 := Lib.hid (PN.out _ (T0.out k0))
        have ST := Lib.hid (O3.out.stored k (.int .i64 0))
        clear k0 PN PL OKG RP3 RV3 T0 T1 T2 T3' T4 T5 T6
        have OO := Lib.hid (S1.out ▸ ST.out.1)
        have BB := Lib.hid (D3.out.grown ST.out.2 (by have := HG0.out; have := D3.out.size; omega) (fun k h => by cases h; exact Nat.le_refl _))
        clear S1 ST
        go_wp2_with fail
        go_roundw
        case rel => first | exact ⟨k + 1, by omega, by go_num, OO, BB⟩ | ((repeat (apply Exists.intro)); refine ⟨?_, rfl⟩; exact ⟨k + 1, by omega, by go_num, OO, BB⟩)
        case measure => simp [intOf] <;> omega
      have i0 : (gk == 0) = false := by simp [k0]
      by_cases k1 : gk = 1
      · have i1 : (gk == 1) = true := by simp [k1]
        have S1 := Lib.hid (PN.out _ (T1.out k1))
        have ST := Lib.hid (O3.out.stored k (.int .i64 1))
        clear k1 PN PL OKG RP3 RV3 T0 T1 T2 T3' T4 T5 T6
        have OO := Lib.hid (S1.out ▸ ST.out.1)
        have BB := Lib.hid (D3.out.grown ST.out.2 (by have := HG0.out; have := D3.out.size; omega) (fun k h => by cases h; exact Nat.le_refl _))
        clear S1 ST
        go_wp2_with fail
        go_roundw
        case rel => first | exact ⟨k + 1, by omega, by go_num, OO, BB⟩ | ((repeat (apply Exists.intro)); refine ⟨?_, rfl⟩; exact ⟨k + 1, by omega, by go_num, OO, BB⟩)
        case measure => simp [intOf] <;> omega
      have i1 : (gk == 1) = false := by simp [k1]
      by_cases k2 : gk = 2
      · have i2 : (gk == 2) = true := by simp [k2]
        have hx0 : 0 ≤ gx := OKG.out.x0
        have hxm : gx < (lb : Int) := by have := OKG.out.xm; unfold mostIx at this; rw [if_pos k2] at this; have e := HNB.out; dsimp only at this; rw [e] at this; exact this
        obtain ⟨j, rfl⟩ : ∃ j : Nat, gx = (j : Int) := ⟨gx.toNat, by omega⟩
        obtain ⟨x, hx⟩ : ∃ x, bs[j]? = some x := ⟨bs[j]'(by have := HBL.out; omega), by simp⟩
        obtain ⟨g', o', rfl, z1⟩ := IVS.out j x hx W3 D3.out
        have e0 : tgN bs is (tvalsTo bs is n.gates k) (gk, (j : Int), gl) = tv x := by
          rw [T2.out k2]
          congr 1
          exact t_get (by rw [Int.toNat_natCast]; exact hx)
        have S1 := Lib.hid (PN.out _ e0)
        have VA := Lib.hid (value_any x W3)
        have ST := Lib.hid (O3.out.stored k (.int .i64 (tv x)))
        have j2 : (0 : Int) ≤ (j : Int) := by omega
        have j3 : (j : Int) < lb := hxm
        clear hx hx0 hxm e0 k2 PN PL OKG RP3 RV3 T0 T1 T2 T3' T4 T5 T6
        have OO := Lib.hid (S1.out ▸ ST.out.1)
        have BB := Lib.hid (D3.out.grown ST.out.2 (by have := HG0.out; have := D3.out.size; omega) (fun k h => by cases h; exact Nat.le_refl _))
        clear S1 ST
        generalize tv x = y at *
        go_wp2_with fail
        refine VA.out.mono ?_
        rintro e w5 ⟨rfl, rfl⟩
        clear VA
        go_wp2_with fail
        go_roundw
        case rel => first | exact ⟨k + 1, by omega, by go_num, OO, BB⟩ | ((repeat (apply Exists.intro)); refine ⟨?_, rfl⟩; exact ⟨k + 1, by omega, by go_num, OO, BB⟩)
        case measure => simp [intOf] <;> omega
      have i2 : (gk == 2) = false := by simp [k2]
      by_cases k3 : gk = 3
      · have i3 : (gk == 3) = true := by simp [k3]
        have hx0 : 0 ≤ gx := OKG.out.x0
        have hxm : gx < (li : Int) := by have := OKG.out.xm; unfold mostIx at this; rw [if_neg k2, if_pos k3] at this; have e := HNI.out; dsimp only at this; rw [e] at this; exact this
        obtain ⟨j, rfl⟩ : ∃ j : Nat, gx = (j : Int) := ⟨gx.toNat, by omega⟩
        obtain ⟨x, hx⟩ : ∃ x, is[j]? = some x := ⟨is[j]'(by have := HIL.out; omega), by simp⟩
        obtain ⟨g', o', rfl, z1⟩ := IVI.out j x hx W3 D3.out
        have e0 : tgN bs is (tvalsTo bs is n.gates k) (gk, (j : Int), gl) = tv x := by
          rw [T3'.out k3]
          congr 1
          exact t_get (by rw [Int.toNat_natCast]; exact hx)
        have S1 := Lib.hid (PN.out _ e0)
        have VA := Lib.hid (value_any x W3)
        have ST := Lib.hid (O3.out.stored k (.int .i64 (tv x)))
        have j2 : (0 : Int) ≤ (j : Int) := by omega
        have j3 : (j : Int) < li := hxm
        clear hx hx0 hxm e0 k3 PN PL OKG RP3 RV3 T0 T1 T2 T3' T4 T5 T6
        have OO := Lib.hid (S1.out ▸ ST.out.1)
        have BB := Lib.hid (D3.out.grown ST.out.2 (by have := HG0.out; have := D3.out.size; omega) (fun k h => by cases h; exact Nat.le_refl _))
        clear S1 ST
        generalize tv x = y at *
        go_wp2_with fail
        refine VA.out.mono ?_
        rintro e w5 ⟨rfl, rfl⟩
        clear VA
        go_wp2_with fail
        go_roundw
        case rel => first | exact ⟨k + 1, by omega, by go_num, OO, BB⟩ | ((repeat (apply Exists.intro)); refine ⟨?_, rfl⟩; exact ⟨k + 1, by omega, by go_num, OO, BB⟩)
        case measure => simp [intOf] <;> omega
      have i3 : (gk == 3) = false := by simp [k3]
      by_cases k4 : gk = 4
      · have i4 : (gk == 4) = true := by simp [k4]
        have VA := Lib.hid (foldand gl (padT (tvalsTo bs is n.gates k) m) 1 (· < B) (fun b => g0 ≤ b ∧ b < W3.heap.size) W3 (.slice p nl c) _ RV3.out RP3.out (fun b (hb : b < B) => by have := J3.out.size; have := hD.out.size; have := HG0.out; omega) (fun b hb => hb.2) (fun x hx => by rw [PL.out]; have := OKG.out.rd x hx; omega) TB3.out)
        have e0 := T4.out k4
        dsimp only at e0
        have S1 := Lib.hid (PN.out _ e0)
        clear e0 k4 PN PL OKG RP3 RV3 T0 T1 T2 T3' T4 T5 T6
        generalize tfold 4 (padT (tvalsTo bs is n.gates k) m) 1 gl = y at *
        go_wp2_with fail
        refine VA.out.mono ?_
        rintro e w5 ⟨rfl, g5⟩
        have J5 := Lib.hid g5
        clear g5 x1 x2 y1 y2 y3 VA
        have O5 := Lib.hid (own_below O3.out J5.out)
        have D5' : Hid (Below g0 wx w5) := Lib.hid (D3.out.trans (J5.out.mono (by have := D3.out.size; have := HG0.out; omega)))
        have x1 := (O5.out.cellAt k (by omega)).trans PF2.out
        have x2 := O5.out.frozenAt k
        have ST := Lib.hid (O5.out.stored k (.int .i64 y))
        have OO := Lib.hid (S1.out ▸ ST.out.1)
        have BB := Lib.hid (D5'.out.grown ST.out.2 (by have := HG0.out; have := D5'.out.size; omega) (fun k h => by cases h; exact Nat.le_refl _))
        clear S1 ST
        go_wp2_with fail
        go_roundw
        case rel => first | exact ⟨k + 1, by omega, by go_num, OO, BB⟩ | ((repeat (apply Exists.intro)); refine ⟨?_, rfl⟩; exact ⟨k + 1, by omega, by go_num, OO, BB⟩)
        case measure => simp [intOf] <;> omega
      have i4 : (gk == 4) = false := by simp [k4]
      by_cases k5 : gk = 5
      · have i5 : (gk == 5) = true := by simp [k5]
        have VA := Lib.hid (foldor gl (padT (tvalsTo bs is n.gates k) m) 0 (· < B) (fun b => g0 ≤ b ∧ b < W3.heap.size) W3 (.slice p nl c) _ RV3.out RP3.out (fun b (hb : b < B) => by have := J3.out.size; have := hD.out.size; have := HG0.out; omega) (fun b hb => hb.2) (fun x hx => by rw [PL.out]; have := OKG.out.rd x hx; omega) TB3.out)
        have e0 := T5.out k5
        dsimp only at e0
        have S1 := Lib.hid (PN.out _ e0)
        clear e0 k5 PN PL OKG RP3 RV3 T0 T1 T2 T3' T4 T5 T6
        generalize tfold 5 (padT (tvalsTo bs is n.gates k) m) 0 gl = y at *
        go_wp2_with fail
        refine VA.out.mono ?_
        rintro e w5 ⟨rfl, g5⟩
        have J5 := Lib.hid g5
        clear g5 x1 x2 y1 y2 y3 VA
        have O5 := Lib.hid (own_below O3.out J5.out)
        have D5' : Hid (Below g0 wx w5) := Lib.hid (D3.out.trans (J5.out.mono (by have := D3.out.size; have := HG0.out; omega)))
        have x1 := (O5.out.cellAt k (by omega)).trans PF2.out
        have x2 := O5.out.frozenAt k
        have ST := Lib.hid (O5.out.stored k (.int .i64 y))
        have OO := Lib.hid (S1.out ▸ ST.out.1)
        have BB := Lib.hid (D5'.out.grown ST.out.2 (by have := HG0.out; have := D5'.out.size; omega) (fun k h => by cases h; exact Nat.le_refl _))
        clear S1 ST
        go_wp2_with fail
        go_roundw
        case rel => first | exact ⟨k + 1, by omega, by go_num, OO, BB⟩ | ((repeat (apply Exists.intro)); refine ⟨?_, rfl⟩; exact ⟨k + 1, by omega, by go_num, OO, BB⟩)
        case measure => simp [intOf] <;> omega
      have i5 : (gk == 5) = false := by simp [k5]
      obtain rfl : gk = 6 := by have h1 := OKG.out.k0; have h2 := OKG.out.k7; dsimp only at h1 h2; omega
      have hl1 : gl.length = 1 := by
        have en := OKG.out.en
        unfold readsB at en
        rw [if_pos rfl, decide_eq_true_eq] at en
        exact en
      obtain ⟨x, hx⟩ : ∃ x, gl[0]? = some x := ⟨gl[0]'(by omega), by simp⟩
      have IR := Lib.hid (readn (p := p) (n := nl) (c := c) RV3.out (fun b (hb : b < B) => by have := J3.out.size; have := hD.out.size; have := HG0.out; omega))
      obtain ⟨g, o2, rfl, z1⟩ := IR.out 0 x hx W3 (Below.refl _ _)
      have hxr := OKG.out.rd x (List.mem_of_getElem? hx)
      obtain ⟨j, rfl⟩ : ∃ j : Nat, x = (j : Int) := ⟨x.toNat, by omega⟩
      have j2 : (0 : Int) ≤ (j : Int) := by omega
      have j3 : (j : Int) < m := by have := hxr.2; omega
      obtain ⟨y, hy⟩ : ∃ y, (padT (tvalsTo bs is n.gates k) m)[j]? = some y := ⟨_, List.getElem?_eq_getElem (by rw [PL.out]; omega)⟩
      have z2 := (O3.out.cellAt j (by omega)).trans (tnumv_get hy)
      have e0 := T6.out _ y rfl (by have := HGL.out; omega) hx (t_get (by rw [Int.toNat_natCast]; exact hy))
      have S1 := Lib.hid (PN.out _ e0)
      have VA := Lib.hid (not_any y W3 TB3.out)
      have j7 : (0 : Int) < (nl : Int) := by have := HGL.out; omega
      have j8 : 0 < nl := by have := HGL.out; omega
      rw [Nat.add_zero] at z1
      clear e0 hy hx hxr hl1 IR k0 k1 k2 k3 k4 k5 PN PL OKG RP3 RV3 T0 T1 T2 T3' T4 T5 T6
      generalize tnot y = yn at *
      go_wp2_with fail
      refine VA.out.mono ?_
      rintro e w5 ⟨rfl, g5⟩
      have J5 := Lib.hid g5
      clear g5 x1 x2 y1 y2 y3 z1 z2 VA
      have O5 := Lib.hid (own_below O3.out J5.out)
      have D5' : Hid (Below g0 wx w5) := Lib.hid (D3.out.trans (J5.out.mono (by have := D3.out.size; have := HG0.out; omega)))
      have x1 := (O5.out.cellAt k (by omega)).trans PF2.out
      have x2 := O5.out.frozenAt k
      have ST := Lib.hid (O5.out.stored k (.int .i64 yn))
      have OO := Lib.hid (S1.out ▸ ST.out.1)
      have BB := Lib.hid (D5'.out.grown ST.out.2 (by have := HG0.out; have := D5'.out.size; omega) (fun k h => by cases h; exact Nat.le_refl _))
      clear S1 ST
      go_wp2_with fail
      go_roundw
      case rel => first | exact ⟨k + 1, by omega, by go_num, OO, BB⟩ | ((repeat (apply Exists.intro)); refine ⟨?_, rfl⟩; exact ⟨k + 1, by omega, by go_num, OO, BB⟩)
      case measure => simp [intOf] <;> omega
    · obtain rfl : k = m := by omega
      have R7 : Hid (RowE KN (fun b => w.heap.size ≤ b ∧ b < wr.heap.size) wr S (.slice (some ⟨g0, 0, none⟩) k k)) := Lib.hid (by
        have hl := VLN.out
        have h := hO.out
        have e := VAL.out
        rw [e, padt_full hl] at h
        rw [SV.out, ← hl]
        refine (own_row (base := g0) ?_ (fun x hx => t3_i64 (tvals_t3 bs is n x hx))).wide fun b hb => ⟨by omega, hb.2⟩
        rw [hl]
        exact h)
      have DF : Hid (Below w.heap.size w wr) := Lib.hid (KW.out _ (next0 D4.out (by rw [HG0.out]; exact hD.out)))
      clear hzr hzg
      go_wp2_with fail
      refine bodyPost_ret (v := .tuple #[.slice (some ⟨g0, 0, none⟩) k k, .int .i64 0]) (by simp [results, Tryd.results17, go_sem]) rfl ?_
      rw [RV.out]
      exact IntE.mk R7.out DF.out
end NetTv
end Go.Proofs.YtedilgnnfmplgaaDoor
