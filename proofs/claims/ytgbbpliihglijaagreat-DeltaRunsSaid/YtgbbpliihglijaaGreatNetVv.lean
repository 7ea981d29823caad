/- evaluate.Values: the values of all gates, or the error. Conditions: those of the package's Check. Made by gnVv.py. -/
import Derived.Test.YtgbbpliihglijaaGreatGBD
import Derived.Test.YtgbbpliihglijaaGreatNetS
namespace Go.Proofs.YtgbbpliihglijaaGreat
open Go Go.RowKit
namespace NetVv
open Kit LexM TermM TermI TermH NetM NetN NetK NetA NetC NetI NetMk NetNu NetOk NetEv NetBo NetMb NetS NetVa
/-- Values of the first gates, the rest false. -/
def padB (V : List Bool) (m : Nat) : List Bool := V ++ List.replicate (m - V.length) false
theorem pad_len {V : List Bool} {m : Nat} (h : V.length ≤ m) : (padB V m).length = m := by
  unfold padB
  simp
  omega
theorem pad_set {V : List Bool} {m : Nat} (h : V.length < m) (b : Bool) : (padB V m).set V.length b = padB (V ++ [b]) m := by
  unfold padB
  rw [List.set_append_right _ _ (Nat.le_refl _), Nat.sub_self, show m - V.length = (m - (V.length + 1)) + 1 by omega, List.replicate_succ, List.set_cons_zero]
  simp
theorem pad_full {V : List Bool} {m : Nat} (h : V.length = m) : padB V m = V := by
  unfold padB
  rw [h, Nat.sub_self]
  simp
theorem pad_at {V : List Bool} {m : Nat} {x : Int} (h0 : 0 ≤ x) (h : x < V.length) : vAt (padB V m) x = vAt V x := v_app h0 h _
theorem pad_get {V : List Bool} {m k : Nat} (h : V.length = k) (hk : k < m) : (padB V m)[k]? = some false := by
  unfold padB
  rw [List.getElem?_append_right (by omega), h, Nat.sub_self, List.getElem?_replicate, if_pos (by omega)]
theorem pad_nil (m : Nat) : padB [] m = List.replicate m false := by
  unfold padB
  simp
theorem pad_next {st ip : List Int} {l : List Gt} {k m : Nat} {g : Gt} {b : Bool} (hm : l.length = m) (hg : l[k]? = some g) (hk : k < m) (hb : gvN st ip (valsTo st ip l k) g = b) : (boolV (padB (valsTo st ip l k) m)).set k (.bool b) = boolV (padB (valsTo st ip l (k + 1)) m) := by
  have hl := vals_len st ip l (k := k) (by omega)
  have e := pad_set (V := valsTo st ip l k) (m := m) (by omega) b
  rw [hl] at e
  rw [boolv_set, e, vals_next st ip l hg, hb]
theorem pad_gv {st ip : List Int} {n : Nt} {k m : Nat} {g : Gt} (hm : n.gates.length = m) (hk : k < m) (ok : GOk n k g) : gvN st ip (padB (valsTo st ip n.gates k) m) g = gvN st ip (valsTo st ip n.gates k) g := by
  have hl := vals_len st ip n.gates (k := k) (by omega)
  exact gv_congr (fun x hx => pad_at (ok.rd x hx).1 (by rw [hl]; exact (ok.rd x hx).2)) fun e => GOk.one ok e
/-- A row of bools that lies still in every later world. -/
def StR (S : List Bool) (B : Nat) (w : World) (v : Value) : Prop := ∀ z, Below w.heap.size w z → RowE KB (fun b => B ≤ b ∧ b < w.heap.size) z S v
theorem StR.step {S : List Bool} {B : Nat} {w w' : World} {v : Value} (h : StR S B w v) (q : Below w.heap.size w w') : StR S B w' v := fun z k => (h z (q.trans (k.mono q.size))).wide fun _ hb => ⟨hb.1, Nat.lt_of_lt_of_le hb.2 q.size⟩
theorem StR.of {S : List Bool} {w w' : World} {v : Value} {B : Nat} (hB : B ≤ w.heap.size) (h : RowE KB (fun b => w.heap.size ≤ b ∧ b < w'.heap.size) w' S v) : StR S B w' v := fun _ q => (h.keep fun b o hb => q.cell (p := ⟨b, o, none⟩) hb.2).wide fun _ hb => ⟨Nat.le_trans hB hb.1, hb.2⟩
theorem undrew {w w' : World} (h : Below w.drew.heap.size w.drew w') : Below w.heap.size w w' := ((Below.refl _ _).drew).trans h
theorem members_st (l : List Int) (m : Nat) (B : Nat) (w0 w : World) (v : Value) (hw : Below w0.heap.size w0 w) (hB : B ≤ w0.heap.size) (hl : RowE KN (· < B) w0 l v) (hm : m ≤ 1000000) (hr : ∀ x ∈ l, 0 ≤ x ∧ x < (m : Int)) :
    Calls Tryz.prog 29 #[v, .int .i64 m] w fun e w' => ∃ u, e = .returned u ∧ StR (memB l m) w0.heap.size w' u ∧ Below w.heap.size w w' :=
  (members_any l m B w v (Nat.le_trans hB hw.size) (hl.keep fun b o h => hw.cell (p := ⟨b, o, none⟩) (Nat.lt_of_lt_of_le h hB)) hm hr).mono fun _ _ ⟨u, e, h1, h2⟩ => ⟨u, e, StR.of hw.size h1, h2⟩
/-- What an evaluation answers. -/
def ValsE (S : List Bool) (er : Int) (w : World) (e : Ending) (w' : World) : Prop := ∃ v, e = .returned (.tuple #[v, .int .i64 er]) ∧ RowE KB (fun b => w.heap.size ≤ b ∧ b < w'.heap.size) w' S v ∧ Below w.heap.size w w'
theorem ValsE.mk {S : List Bool} {er : Int} {w w' : World} {v : Value} (h : RowE KB (fun b => w.heap.size ≤ b ∧ b < w'.heap.size) w' S v) (h2 : Below w.heap.size w w') : ValsE S er w (.returned (.tuple #[v, .int .i64 er])) w' := ⟨v, rfl, h, h2⟩
theorem ValsE.no {S : List Bool} {er c : Int} {w w' : World} (h : er = c ∧ S = []) (h2 : Below w.heap.size w w') : ValsE S er w (.returned (.tuple #[.slice none 0 0, .int .i64 c])) w' := by
  obtain ⟨rfl, rfl⟩ := h
  exact ⟨_, rfl, RowE.nil _ _, h2⟩
set_option maxRecDepth 100000 in
set_option maxHeartbeats 6400000 in
theorem values_any (n : Nt) (h : Nh) (st ip : List Int) (B : Nat) (w : World) (vs vi : Value) (hB : B ≤ w.heap.size) (k : NetIn (· < B) w n h) (hz : SzN n) (hs : RowE KN (· < B) w st vs) (hi : RowE KN (· < B) w ip vi) :
    Calls Tryz.prog 24 #[.agg #[.slice h.gp n.gates.length h.gc, .slice h.rp n.roles.length h.rc, .slice h.bp n.bases.length h.bc, .slice h.ip n.inputs.length h.ic, .slice h.ap n.initial.length h.ac, .slice h.np n.next.length h.nc, .slice h.lp n.legal.length h.lc, .slice h.op n.goals.length h.oc, .slice h.sp n.sees.length h.sc, .int .i64 n.last, .bool n.hid], vs, vi] w (ValsE (evV groundB st ip n) (evE groundB st ip n) w) := by
  have hmx : n.next.length ≤ 1000000 := hz.next
  have hmy : n.legal.length ≤ 1000000 := hz.legal
  obtain ⟨W1, hW1⟩ : ∃ z, z = w.alloc (.cells #[.slice h.gp n.gates.length h.gc, .slice h.rp n.roles.length h.rc, .slice h.bp n.bases.length h.bc, .slice h.ip n.inputs.length h.ic, .slice h.ap n.initial.length h.ac, .slice h.np n.next.length h.nc, .slice h.lp n.legal.length h.lc, .slice h.op n.goals.length h.oc, .slice h.sp n.sees.length h.sc, .int .i64 n.last, .bool n.hid] 28) := ⟨_, rfl⟩
  have K1 : Hid (Below w.heap.size w W1) := Lib.hid (by rw [hW1]; exact below_alloc _ _)
  have H1 : Hid (Has W1 w.heap.size (netC n h)) := Lib.hid (by rw [hW1]; exact Has.new _ _ _)
  have hzz := K1.out.size
  have KW := Lib.hid (fun w' (q : Below W1.heap.size W1 w') => show Below w.heap.size w w' from K1.out.trans (q.mono hzz))
  have NK := Lib.hid (fun w' (q : Below W1.heap.size W1 w') => k.deep (KW.out w' q) hB)
  have HQ := Lib.hid (fun w' (q : Below W1.heap.size W1 w') => hasN (H1.out.step0 q))
  have hlen : n.gates.length ≤ maxLen := by obtain ⟨_, h1, h2⟩ := k.gates.cap; omega
  unfold maxLen at hlen
  have F13 : Hid (chkN groundB n ≠ 0 → evE groundB st ip n = 13 ∧ evV groundB st ip n = []) := Lib.hid (fun e => ⟨ev_net e, evv_no (by rw [ev_net e]; decide)⟩)
  have F14 : Hid (chkN groundB n = 0 → numsB st n.bases.length = false → evE groundB st ip n = 14 ∧ evV groundB st ip n = []) := Lib.hid (fun e e2 => ⟨ev_st e e2, evv_no (by rw [ev_st e e2]; decide)⟩)
  have F15 : Hid (chkN groundB n = 0 → numsB st n.bases.length = true → numsB ip n.inputs.length = false → evE groundB st ip n = 15 ∧ evV groundB st ip n = []) := Lib.hid (fun e e2 e3 => ⟨ev_ip e e2 e3, evv_no (by rw [ev_ip e e2 e3]; decide)⟩)
  have F0 : Hid (chkN groundB n = 0 → numsB st n.bases.length = true → numsB ip n.inputs.length = true → evE groundB st ip n = 0 ∧ evV groundB st ip n = valsN st ip n) := Lib.hid (fun e e2 e3 => ⟨ev_ok e e2 e3, evv_ok (ev_ok e e2 e3)⟩)
  have OKN : Hid (chkN groundB n = 0 → NOk n) := Lib.hid nok
  have NS : Hid (numsB st n.bases.length = true → ∀ x ∈ st, 0 ≤ x ∧ x < (n.bases.length : Int)) := Lib.hid nums_mem
  have NI : Hid (numsB ip n.inputs.length = true → ∀ x ∈ ip, 0 ≤ x ∧ x < (n.inputs.length : Int)) := Lib.hid nums_mem
  have RS := Lib.hid (fun w' (q : Below W1.heap.size W1 w') => hs.keep (w' := w') fun b o (hb : b < B) => (KW.out w' q).cell (p := ⟨b, o, none⟩) (Nat.lt_of_lt_of_le hb hB))
  have RI := Lib.hid (fun w' (q : Below W1.heap.size W1 w') => hi.keep (w' := w') fun b o (hb : b < B) => (KW.out w' q).cell (p := ⟨b, o, none⟩) (Nat.lt_of_lt_of_le hb hB))
  have CK := Lib.hid (fun w' (q : Below W1.heap.size W1 w') => check_any n h B w' (Nat.le_trans hB (KW.out w' q).size) (NK.out w' q) hz)
  have VS := Lib.hid (fun w' (q : Below W1.heap.size W1 w') => ascb_any st n.bases.length B w' vs (Nat.le_trans hB (KW.out w' q).size) (RS.out w' q))
  have VI := Lib.hid (fun w' (q : Below W1.heap.size W1 w') => ascb_any ip n.inputs.length B w' vi (Nat.le_trans hB (KW.out w' q).size) (RI.out w' q))
  have MS := Lib.hid (fun w0 (q0 : Below W1.heap.size W1 w0) w' (q : Below w0.heap.size w0 w') hm hr => members_st st n.bases.length B w0 w' vs q (Nat.le_trans hB (KW.out w0 q0).size) (RS.out w0 q0) hm hr)
  have MI := Lib.hid (fun w0 (q0 : Below W1.heap.size W1 w0) w' (q : Below w0.heap.size w0 w') hm hr => members_st ip n.inputs.length B w0 w' vi q (Nat.le_trans hB (KW.out w0 q0).size) (RI.out w0 q0) hm hr)
  have HB := Lib.hid hB
  obtain ⟨psl, csl, rfl⟩ := hs.form
  obtain ⟨pil, cil, rfl⟩ := hi.form
  clear k hz hs hi RS RI
  generalize evV groundB st ip n = S at *
  generalize evE groundB st ip n = er at *
  generalize chkN groundB n = c at *
  obtain ⟨q1, q2, q3, q4, q5, q6, q7, q8, q9, q10, q11⟩ := HQ.out W1 (Below.refl _ _)
  have C1 := Lib.hid (CK.out W1 (Below.refl _ _))
  clear CK
  go_enter Tryz.func24, Tryz.ntmps24
  go_upto_region 1 with fail
  rw [← hW1]
  clear hW1
  go_wp2_with fail
  refine C1.out.mono ?_
  rintro e w4 ⟨rfl, g4⟩
  have D4 := Lib.hid (next0 (Below.refl W1.heap.size W1) g4)
  have DD4 := Lib.hid (KW.out _ D4.out)
  clear g4 C1 q1 q2 q3 q4 q5 q6 q7 q8 q9 q10 q11
  obtain ⟨q1, q2, q3, q4, q5, q6, q7, q8, q9, q10, q11⟩ := HQ.out w4 D4.out
  by_cases hc : c = 0
  rotate_left
  · have e0 := Lib.hid (F13.out hc)
    have i1 : (c != 0) = true := by simp [hc]
    clear F13 F14 F15 F0 OKN hc
    go_wp2_with fail
    refine bodyPost_ret (v := .tuple #[.slice none 0 0, .int .i64 13]) (by simp [results, Tryz.results24, go_sem]) rfl ?_
    exact ValsE.no e0.out DD4.out
  have i1 : (c != 0) = false := by simp [hc]
  have F14a := Lib.hid (F14.out hc)
  have F15a := Lib.hid (F15.out hc)
  have F0a := Lib.hid (F0.out hc)
  have OKa := Lib.hid (OKN.out hc)
  clear F13 F14 F15 F0 OKN hc
  have V1 := Lib.hid (VS.out w4 D4.out)
  clear VS
  generalize numsB st n.bases.length = b1 at *
  go_wp2_with fail
  refine V1.out.mono ?_
  rintro e w5 ⟨rfl, g5⟩
  have D5 := Lib.hid (next0 D4.out g5)
  have DD5 := Lib.hid (KW.out _ D5.out)
  clear g5 V1 i1 q1 q2 q3 q4 q5 q6 q7 q8 q9 q10 q11
  obtain ⟨q1, q2, q3, q4, q5, q6, q7, q8, q9, q10, q11⟩ := HQ.out w5 D5.out
  cases b1
  · have e0 := Lib.hid (F14a.out rfl)
    clear F14a F15a F0a
    go_wp2_with fail
    refine bodyPost_ret (v := .tuple #[.slice none 0 0, .int .i64 14]) (by simp [results, Tryz.results24, go_sem]) rfl ?_
    exact ValsE.no e0.out DD5.out
  have F15b := Lib.hid (F15a.out rfl)
  have F0b := Lib.hid (F0a.out rfl)
  have NSa := Lib.hid (NS.out rfl)
  clear F14a F15a F0a NS
  have V2 := Lib.hid (VI.out w5 D5.out)
  clear VI
  generalize numsB ip n.inputs.length = b2 at *
  go_wp2_with fail
  refine V2.out.mono ?_
  rintro e w6 ⟨rfl, g6⟩
  have D6 := Lib.hid (next0 D5.out g6)
  have DD6 := Lib.hid (KW.out _ D6.out)
  clear g6 V2 q1 q2 q3 q4 q5 q6 q7 q8 q9 q10 q11
  obtain ⟨q1, q2, q3, q4, q5, q6, q7, q8, q9, q10, q11⟩ := HQ.out w6 D6.out
  cases b2
  · have e0 := Lib.hid (F15b.out rfl)
    clear F15b F0b
    go_wp2_with fail
    refine bodyPost_ret (v := .tuple #[.slice none 0 0, .int .i64 15]) (by simp [results, Tryz.results24, go_sem]) rfl ?_
    exact ValsE.no e0.out DD6.out
  have E0 := Lib.hid (F0b.out rfl)
  have NIa := Lib.hid (NI.out rfl)
  clear F15b F0b NI
  have hbl : n.bases.length ≤ 1000000 := by have := OKa.out.next; omega
  have hil : n.inputs.length ≤ 1000000 := by have := OKa.out.legal; omega
  have M1 := Lib.hid (fun w' q => MS.out w6 D6.out w' q hbl NSa.out)
  have M2 := Lib.hid (fun w' q => MI.out w6 D6.out w' q hil NIa.out)
  clear MS MI hmx hmy
  have H6 := Lib.hid (fun w' (q : Below w6.heap.size w6 w') => show w'.cell? ⟨w.heap.size, 2, none⟩ = some (.slice h.bp n.bases.length h.bc) ∧ w'.cell? ⟨w.heap.size, 3, none⟩ = some (.slice h.ip n.inputs.length h.ic) from by
    obtain ⟨q1, q2, q3, q4, q5, q6, q7, q8, q9, q10, q11⟩ := HQ.out w' (next0 D6.out q)
    exact ⟨q3, q4⟩)
  clear q1 q2 q3 q4 q5 q6 q7 q8 q9 q10 q11
  go_upto_region 7 with fail
  go_cut [8, 9] (fun s t wx => Hid (StR (memB st n.bases.length) w6.heap.size wx s) ∧ Hid (StR (memB ip n.inputs.length) w6.heap.size wx t) ∧ Hid (Below w6.heap.size w6 wx))
  case first =>
    have hq0 : Hid (Below w6.heap.size w6 w6.drew) := Lib.hid (Below.refl _ _).drew
    obtain ⟨x1, x2⟩ := H6.out _ hq0.out
    go_region_held3 (fun w' => w'.cell? ⟨w.heap.size, 2, none⟩ = some (.slice h.bp n.bases.length h.bc) ∧ w'.cell? ⟨w.heap.size, 3, none⟩ = some (.slice h.ip n.inputs.length h.ic))
      (first | (with_reducible assumption) | (with_reducible exact ⟨‹_›, ‹_›⟩) | (with_reducible refine H6.out _ ?_; repeat (first | (with_reducible exact Hid.out (by assumption)) | (with_reducible exact Below.refl _ _) | (with_reducible refine Below.drew ?_))))
      (first
        | (go_at_call 29; (try go_split_ands); (with_reducible refine (M1.out _ (by repeat (first | (with_reducible exact Hid.out (by assumption)) | (with_reducible exact Below.refl _ _) | (with_reducible refine Below.drew ?_)))).mono ?_); rintro e wa ⟨ua, rfl, ra, qa⟩; have RA := Lib.hid ra; have QA := Lib.hid qa; (have QG : Hid (Below w6.heap.size w6 wa) := Lib.hid (by (refine next0 ?_ qa; repeat (first | (with_reducible exact Hid.out (by assumption)) | (with_reducible exact Below.refl _ _) | (with_reducible refine Below.drew ?_))))); clear ra qa; obtain ⟨x1, x2⟩ := H6.out _ QG.out)
        | (go_at_call 29; (try go_split_ands); (with_reducible refine (M2.out _ (by repeat (first | (with_reducible exact Hid.out (by assumption)) | (with_reducible exact Below.refl _ _) | (with_reducible refine Below.drew ?_)))).mono ?_); rintro e wb ⟨ub, rfl, rb, qb⟩; have RB := Lib.hid rb; have QB := Lib.hid qb; (have QH : Hid (Below w6.heap.size w6 wb) := Lib.hid (by (refine next0 ?_ qb; repeat (first | (with_reducible exact Hid.out (by assumption)) | (with_reducible exact Below.refl _ _) | (with_reducible refine Below.drew ?_))))); clear rb qb; obtain ⟨x1, x2⟩ := H6.out _ QH.out))
    all_goals
      go_wp2_with fail
      go_meet
      refine ⟨?_, ?_, ?_⟩
      · first | (with_reducible exact RA) | exact Lib.hid (RA.out.step (by first | (exact QB.out) | (refine undrew ?_; (first | (exact QB.out) | (refine undrew ?_; (first | (exact QB.out) | (refine undrew ?_; (first | (exact QB.out) | (refine undrew ?_; (first | (exact QB.out) | (refine undrew ?_; (first | (exact QB.out) | (refine undrew ?_; (first | (exact QB.out) | (refine undrew ?_; (first | (exact QB.out) | (refine undrew ?_; (first | (exact QB.out) | (refine undrew ?_; (first | (exact QB.out) | (refine undrew ?_; (first | (exact QB.out) | (refine undrew ?_; (first | (exact QB.out) | (refine undrew ?_; (first | (exact QB.out) | (refine undrew ?_; (first | (exact QB.out) | (refine undrew ?_; (first | (exact QB.out)))))))))))))))))))))))))))))))
      · first | (with_reducible exact RB) | exact Lib.hid (RB.out.step (by first | (exact QA.out) | (refine undrew ?_; (first | (exact QA.out) | (refine undrew ?_; (first | (exact QA.out) | (refine undrew ?_; (first | (exact QA.out) | (refine undrew ?_; (first | (exact QA.out) | (refine undrew ?_; (first | (exact QA.out) | (refine undrew ?_; (first | (exact QA.out) | (refine undrew ?_; (first | (exact QA.out) | (refine undrew ?_; (first | (exact QA.out) | (refine undrew ?_; (first | (exact QA.out) | (refine undrew ?_; (first | (exact QA.out) | (refine undrew ?_; (first | (exact QA.out) | (refine undrew ?_; (first | (exact QA.out) | (refine undrew ?_; (first | (exact QA.out) | (refine undrew ?_; (first | (exact QA.out)))))))))))))))))))))))))))))))
      · first | (with_reducible exact QG) | (with_reducible exact QH) | exact Lib.hid (by repeat (first | (with_reducible exact QG.out) | (with_reducible exact QH.out) | (refine Below.drew ?_)))
  case rest =>
    generalize hwx : wc = wx at *
    clear hwx
    obtain ⟨hs, ht, hq⟩ := hcut
    have D7 := Lib.hid (next0 D6.out hq.out)
    have DD7 := Lib.hid (KW.out _ D7.out)
    obtain ⟨ps, cs, rfl⟩ := (hs.out _ (Below.refl _ _)).form
    obtain ⟨pt, ct, rfl⟩ := (ht.out _ (Below.refl _ _)).form
    have IVS := Lib.hid (readb (hs.out _ (Below.refl _ _)) (fun b hb => hb.2))
    have IVI := Lib.hid (readb (ht.out _ (Below.refl _ _)) (fun b hb => hb.2))
    have GTS := Lib.hid (fun k g (hg : n.gates[k]? = some g) w' (q : Below wx.heap.size wx w') => show ∃ v b o, h.gp = some ⟨b, o, none⟩ ∧ w'.cell? ⟨b, o + k * 3, none⟩ = some (.int .i64 g.1) ∧ w'.cell? ⟨b, o + k * 3 + 1, none⟩ = some (.int .i64 g.2.1) ∧ w'.cell? ⟨b, o + k * 3 + 2, none⟩ = some v ∧ RowE KN (· < B) w' g.2.2 v from by
      obtain ⟨v, b, o, e1, _, e3, e4⟩ := (NK.out w' (next0 D7.out q)).gates.at hg
      exact ⟨v, b, o, e1, by have := e4 0 _ rfl; simpa [KG] using this, by have := e4 1 _ rfl; simpa [KG] using this, by have := e4 2 _ rfl; simpa [KG] using this, e3.1⟩)
    have hg16 : n.gates.length ≤ 16384 := OKa.out.few
    obtain ⟨wm, M, O, G⟩ := make_b wx n.gates.length (by omega)
    have O0 : Hid (wm.ownsRow wx.heap.size 4 1 (.slice (some ⟨wx.heap.size, 0, none⟩) n.gates.length n.gates.length) n.gates.length (boolV (padB (valsTo st ip n.gates 0) n.gates.length))) := Lib.hid (by
      rw [show valsTo st ip n.gates 0 = [] from rfl, pad_nil]
      exact O)
    have B0 := Lib.hid ((Below.refl wx.heap.size wx).grown G (Nat.le_refl _) (fun k h => by cases h))
    have hz7 := DD7.out.size
    have hzB : B ≤ wx.heap.size := Nat.le_trans HB.out hz7
    have SV : Hid (S = valsN st ip n) := Lib.hid E0.out.2
    have RV : Hid (er = 0) := Lib.hid E0.out.1
    have VAL := Lib.hid (vals_all st ip n)
    obtain ⟨q1, q2, q3, q4, q5, q6, q7, q8, q9, q10, q11⟩ := HQ.out wx D7.out
    have qm := (HQ.out wm (next0 D7.out B0.out)).1
    have LMs := Lib.hid (memb_len st n.bases.length)
    have LMi := Lib.hid (memb_len ip n.inputs.length)
    generalize (memB st n.bases.length).length = ls at *
    generalize (memB ip n.inputs.length).length = li at *
    clear O G hs ht M1 M2 E0
    generalize hgm : n.gates.length = m at *
    have HM := Lib.hid hgm
    clear hgm
    generalize hg0 : wx.heap.size = g0 at *
    have HG0 := Lib.hid hg0
    clear hg0
    go_wp2_with fail
    clear qm q1 q2 q3 q4 q5 q6 q7 q8 q9 q10 q11
    go_loopw [48] (fun i wr => ∃ k : Nat, k ≤ m ∧ i = .int .i64 k ∧ Hid (wr.ownsRow g0 4 1 (.slice (some ⟨g0, 0, none⟩) m m) m (boolV (padB (valsTo st ip n.gates k) m))) ∧ Hid (Below g0 wx wr)) (fun i _ => m - (intOf i).toNat)
    case atStart => exact ⟨0, Nat.zero_le _, rfl, O0, B0⟩
    case round =>
      obtain ⟨k, hk, rfl, hO, hD⟩ := hrel
      have hzr := hD.out.size
      have hzg := HG0.out
      by_cases hlt : k < m
      · obtain ⟨⟨gk, gx, gl⟩, hg⟩ : ∃ g, n.gates[k]? = some g := ⟨n.gates[k]'(by rw [HM.out]; exact hlt), by simp⟩
        obtain ⟨v, b, o, egp, c0, c1, c2, rv⟩ := GTS.out k _ hg wr hD.out
        obtain ⟨p, c, rfl⟩ := rv.form
        have OKG := Lib.hid (OKa.out.gate k _ hg)
        have PN := Lib.hid (fun b => pad_next (st := st) (ip := ip) (b := b) HM.out hg hlt)
        have PG := Lib.hid (pad_gv (st := st) (ip := ip) HM.out hlt OKG.out)
        have PL : Hid ((padB (valsTo st ip n.gates k) m).length = m) := Lib.hid (pad_len (by rw [vals_len _ _ _ (by rw [HM.out]; exact hk)]; exact hk))
        have PF : Hid ((boolV (padB (valsTo st ip n.gates k) m))[k]? = some (.bool false)) := Lib.hid (boolv_get (pad_get (vals_len _ _ _ (by rw [HM.out]; exact hk)) hlt))
        have j0 : (0 : Int) ≤ (k : Int) := by omega
        have j1 : (k : Int) < m := by omega
        obtain ⟨W3, hW3⟩ : ∃ z, z = wr.alloc (.cells #[.int .i64 gk, .int .i64 gx, .slice p gl.length c] 55) := ⟨_, rfl⟩
        have J3 : Hid (Below wr.heap.size wr W3) := Lib.hid (by rw [hW3]; exact below_alloc _ _)
        have H3 : Has W3 wr.heap.size #[.int .i64 gk, .int .i64 gx, .slice p gl.length c] := by rw [hW3]; exact Has.new _ _ _
        have O3 := Lib.hid (own_below hO.out J3.out)
        have D3 : Hid (Below g0 wx W3) := Lib.hid (hD.out.trans (J3.out.mono (by omega)))
        have RV3 := Lib.hid (rv.keep (w' := W3) fun b o (hb : b < B) => J3.out.cell (p := ⟨b, o, none⟩) (show b < wr.heap.size by omega))
        have y1 := H3.cell 0
        have y2 := H3.cell 1
        have y3 := H3.cell 2
        obtain ⟨q1, q2, q3, q4, q5, q6, q7, q8, q9, q10, q11⟩ := HQ.out wr (next0 D7.out (by rw [HG0.out]; exact hD.out))
        clear hg rv H3
        generalize hgl : gl.length = nl at *
        have HGL := Lib.hid hgl
        clear hgl hzr hzg
        go_upto_region 13 with fail
        rw [← hW3]
        clear hW3 c0 c1 c2 egp q1 q2 q3 q4 q5 q6 q7 q8 q9 q10 q11
        have x1 := (O3.out.cellAt k (by omega)).trans PF.out
        have x2 := O3.out.frozenAt k
        by_cases k2 : gk = 2
        · have e0 := Lib.hid (gv_base (st := st) (ip := ip) (V := valsTo st ip n.gates k) (g := (gk, gx, gl)) k2)
          have hx0 : 0 ≤ gx := OKG.out.x0
          have hxm : gx < n.bases.length := by have := OKG.out.xm; unfold mostIx at this; rw [if_pos k2] at this; exact this
          obtain ⟨j, rfl⟩ : ∃ j : Nat, gx = (j : Int) := ⟨gx.toNat, by omega⟩
          have hb := memb_get (l := st) (m := n.bases.length) (j := j) (by omega) (fun x hx => (NSa.out x hx).1)
          obtain ⟨g', o', rfl, z1⟩ := IVS.out j _ hb W3 D3.out
          have S1 := Lib.hid (PN.out _ e0.out)
          generalize decide ((j : Int) ∈ st) = bv at *
          have ST := Lib.hid (O3.out.stored k (.bool bv))
          have i2 : (gk == 2) = true := by simp [k2]
          have j2 : (0 : Int) ≤ (j : Int) := by omega
          have j3 : (j : Int) < ls := by rw [LMs.out]; exact hxm
          clear hb e0 k2 PN PG PL PF OKG
          have OO := Lib.hid (S1.out ▸ ST.out.1)
          have BB := Lib.hid (D3.out.grown ST.out.2 (by have := HG0.out; have := D3.out.size; omega) (fun k h => by cases h; exact Nat.le_refl _))
          clear S1 ST
          go_wp2_with fail
          go_roundw
          case rel => first | exact ⟨k + 1, by omega, by go_num, OO, BB⟩ | ((repeat (apply Exists.intro)); refine ⟨?_, rfl⟩; exact ⟨k + 1, by omega, by go_num, OO, BB⟩)
          case measure => simp [intOf] <;> omega
        have i2 : (gk == 2) = false := by simp [k2]
        by_cases k3 : gk = 3
        · have e0 := Lib.hid (gv_input (st := st) (ip := ip) (V := valsTo st ip n.gates k) (g := (gk, gx, gl)) k3)
          have hx0 : 0 ≤ gx := OKG.out.x0
          have hxm : gx < n.inputs.length := by have := OKG.out.xm; unfold mostIx at this; rw [if_neg k2, if_pos k3] at this; exact this
          obtain ⟨j, rfl⟩ : ∃ j : Nat, gx = (j : Int) := ⟨gx.toNat, by omega⟩
          have hb := memb_get (l := ip) (m := n.inputs.length) (j := j) (by omega) (fun x hx => (NIa.out x hx).1)
          obtain ⟨g', o', rfl, z1⟩ := IVI.out j _ hb W3 D3.out
          have S1 := Lib.hid (PN.out _ e0.out)
          generalize decide ((j : Int) ∈ ip) = bv at *
          have ST := Lib.hid (O3.out.stored k (.bool bv))
          have i3 : (gk == 3) = true := by simp [k3]
          have j2 : (0 : Int) ≤ (j : Int) := by omega
          have j3 : (j : Int) < li := by rw [LMi.out]; exact hxm
          clear hb e0 k2 k3 PN PG PL PF OKG
          have OO := Lib.hid (S1.out ▸ ST.out.1)
          have BB := Lib.hid (D3.out.grown ST.out.2 (by have := HG0.out; have := D3.out.size; omega) (fun k h => by cases h; exact Nat.le_refl _))
          clear S1 ST
          go_wp2_with fail
          go_roundw
          case rel => first | exact ⟨k + 1, by omega, by go_num, OO, BB⟩ | ((repeat (apply Exists.intro)); refine ⟨?_, rfl⟩; exact ⟨k + 1, by omega, by go_num, OO, BB⟩)
          case measure => simp [intOf] <;> omega
        have i3 : (gk == 3) = false := by simp [k3]
        have RB3 : Hid (RowE KB (fun b => g0 ≤ b ∧ b < W3.heap.size) W3 (padB (valsTo st ip n.gates k) m) (.slice (some ⟨g0, 0, none⟩) m m)) := Lib.hid (own_rowb (by rw [PL.out]; exact O3.out))
        have VA := Lib.hid (value_any st ip (gk, gx, gl) (padB (valsTo st ip n.gates k) m) (· < B) (fun b => g0 ≤ b ∧ b < W3.heap.size) W3 (.slice p gl.length c) _ (by rw [HGL.out]; exact RV3.out) RB3.out (fun b (hb : b < B) => by have := J3.out.size; have := hD.out.size; have := HG0.out; omega) (fun b hb => hb.2) (fun x hx => by rw [PL.out]; have := OKG.out.rd x hx; omega) k2 k3 (fun e => GOk.one OKG.out e))
        rw [HGL.out, PG.out] at VA
        obtain ⟨bv, hbv⟩ : ∃ bv, gvN st ip (valsTo st ip n.gates k) (gk, gx, gl) = bv := ⟨_, rfl⟩
        have S1 := Lib.hid (PN.out _ hbv)
        rw [hbv] at VA
        clear hbv k2 k3 PN PG PL OKG RB3 RV3
        dsimp only at VA
        go_wp2_with fail
        refine VA.out.mono ?_
        rintro e w5 ⟨rfl, g5⟩
        have J5 := Lib.hid g5
        clear g5 x1 x2 y1 y2 y3 VA
        have O5 := Lib.hid (own_below O3.out J5.out)
        have D5' : Hid (Below g0 wx w5) := Lib.hid (D3.out.trans (J5.out.mono (by have := D3.out.size; have := HG0.out; omega)))
        have x1 := (O5.out.cellAt k (by omega)).trans PF.out
        have x2 := O5.out.frozenAt k
        have ST := Lib.hid (O5.out.stored k (.bool bv))
        clear PF
        have OO := Lib.hid (S1.out ▸ ST.out.1)
        have BB := Lib.hid (D5'.out.grown ST.out.2 (by have := HG0.out; have := D5'.out.size; omega) (fun k h => by cases h; exact Nat.le_refl _))
        clear S1 ST
        go_wp2_with fail
        go_roundw
        case rel => first | exact ⟨k + 1, by omega, by go_num, OO, BB⟩ | ((repeat (apply Exists.intro)); refine ⟨?_, rfl⟩; exact ⟨k + 1, by omega, by go_num, OO, BB⟩)
        case measure => simp [intOf] <;> omega
      · obtain rfl : k = m := by omega
        have R7 : Hid (RowE KB (fun b => w.heap.size ≤ b ∧ b < wr.heap.size) wr S (.slice (some ⟨g0, 0, none⟩) k k)) := Lib.hid (by
          have hl := valsn_len st ip n
          rw [HM.out] at hl
          have h := hO.out
          rw [VAL.out, pad_full hl] at h
          rw [SV.out, ← hl]
          refine (own_rowb (base := g0) ?_).wide fun b hb => ⟨by omega, hb.2⟩
          rw [hl]
          exact h)
        have DF : Hid (Below w.heap.size w wr) := Lib.hid (KW.out _ (next0 D7.out (by rw [HG0.out]; exact hD.out)))
        clear hzr hzg
        go_wp2_with fail
        refine bodyPost_ret (v := .tuple #[.slice (some ⟨g0, 0, none⟩) k k, .int .i64 0]) (by simp [results, Tryz.results24, go_sem]) rfl ?_
        rw [RV.out]
        exact ValsE.mk R7.out DF.out
end NetVv
end Go.Proofs.YtgbbpliihglijaaGreat
