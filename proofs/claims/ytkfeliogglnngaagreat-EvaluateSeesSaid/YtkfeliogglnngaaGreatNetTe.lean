/- evaluate.Terminal. Conditions: those of Values. Made by gnNx.py. -/
import Derived.Test.YtkfeliogglnngaaGreatNetVv
namespace Go.Proofs.YtkfeliogglnngaaGreat
open Go Go.RowKit
namespace NetTe
open Kit LexM TermM TermI TermH NetM NetN NetK NetA NetC NetI NetMk NetNu NetOk NetEv NetBo NetMb NetS NetVa NetVv
def endE (g : Tm → Bool) (st : List Int) (n : Nt) : Bool := decide (evE g st [] n = 0) && vAt (evV g st [] n) n.last
set_option maxRecDepth 100000 in
set_option maxHeartbeats 3200000 in
theorem terminal_any (n : Nt) (h : Nh) (st : List Int) (B : Nat) (w : World) (vs : Value) (hB : B ≤ w.heap.size) (k : NetIn (· < B) w n h) (hz : SzN n) (hs : RowE KN (· < B) w st vs) :
    Calls Tryz.prog 11 #[.agg #[.slice h.gp n.gates.length h.gc, .slice h.rp n.roles.length h.rc, .slice h.bp n.bases.length h.bc, .slice h.ip n.inputs.length h.ic, .slice h.ap n.initial.length h.ac, .slice h.np n.next.length h.nc, .slice h.lp n.legal.length h.lc, .slice h.op n.goals.length h.oc, .slice h.sp n.sees.length h.sc, .int .i64 n.last, .bool n.hid], vs] w fun e w' => e = .returned (.tuple #[.bool (endE groundB st n), .int .i64 (evE groundB st [] n)]) ∧ Below w.heap.size w w' := by
  obtain ⟨W1, hW1⟩ : ∃ z, z = w.alloc (.cells #[.slice h.gp n.gates.length h.gc, .slice h.rp n.roles.length h.rc, .slice h.bp n.bases.length h.bc, .slice h.ip n.inputs.length h.ic, .slice h.ap n.initial.length h.ac, .slice h.np n.next.length h.nc, .slice h.lp n.legal.length h.lc, .slice h.op n.goals.length h.oc, .slice h.sp n.sees.length h.sc, .int .i64 n.last, .bool n.hid] 28) := ⟨_, rfl⟩
  have K1 : Hid (Below w.heap.size w W1) := Lib.hid (by rw [hW1]; exact below_alloc _ _)
  have H1 : Hid (Has W1 w.heap.size (netC n h)) := Lib.hid (by rw [hW1]; exact Has.new _ _ _)
  have hzz := K1.out.size
  have KW := Lib.hid (fun w' (q : Below W1.heap.size W1 w') => show Below w.heap.size w w' from K1.out.trans (q.mono hzz))
  have NK := Lib.hid (fun w' (q : Below W1.heap.size W1 w') => k.deep (KW.out w' q) hB)
  have HQ := Lib.hid (fun w' (q : Below W1.heap.size W1 w') => hasN (H1.out.step0 q))
  have C1 := Lib.hid (values_any n h st [] B W1 vs (.slice none 0 0) (Nat.le_trans hB hzz) (NK.out W1 (Below.refl _ _)) hz (hs.keep fun b o (hb : b < B) => K1.out.cell (p := ⟨b, o, none⟩) (Nat.lt_of_lt_of_le hb hB)) (RowE.nil _ _))
  have E1 : Hid (evE groundB st [] n ≠ 0 → endE groundB st n = false) := Lib.hid (fun e => by unfold endE; rw [decide_eq_false e]; rfl)
  have E0 : Hid (evE groundB st [] n = 0 → endE groundB st n = vAt (evV groundB st [] n) n.last ∧ EOk st [] n ∧ (evV groundB st [] n).length = n.gates.length) := Lib.hid (fun e => ⟨by unfold endE; rw [decide_eq_true e]; rfl, eok e, by rw [evv_ok e, valsn_len]⟩)
  obtain ⟨psl, csl, rfl⟩ := hs.form
  clear k hz hs
  obtain ⟨q1, q2, q3, q4, q5, q6, q7, q8, q9, q10, q11⟩ := HQ.out W1 (Below.refl _ _)
  generalize endE groundB st n = P at *
  generalize evV groundB st [] n = S at *
  generalize evE groundB st [] n = er at *
  go_enter Tryz.func11, Tryz.ntmps11
  go_upto_region 1 with fail
  rw [← hW1]
  clear hW1
  go_wp2_with fail
  refine C1.out.mono ?_
  rintro e w4 ⟨v4, rfl, hv4, g4⟩
  have D4 := Lib.hid (next0 (Below.refl W1.heap.size W1) g4)
  have DD4 := Lib.hid (KW.out _ D4.out)
  clear g4 C1 q1 q2 q3 q4 q5 q6 q7 q8 q9 q10 q11
  obtain ⟨p4, c4, rfl⟩ := hv4.form
  obtain ⟨q1, q2, q3, q4, q5, q6, q7, q8, q9, q10, q11⟩ := HQ.out w4 D4.out
  by_cases hc : er = 0
  rotate_left
  · have e0 := Lib.hid (E1.out hc)
    have i1 : (er == 0) = false := by simp [hc]
    clear E0 E1 hc
    go_wp2_with fail
    refine bodyPost_ret (v := .tuple #[.bool false, .int .i64 er]) (by simp [results, Tryz.results11, go_sem]) rfl ?_
    exact ⟨by rw [e0.out], DD4.out⟩
  have i1 : (er == 0) = true := by simp [hc]
  have EE := Lib.hid (E0.out hc)
  have IV := Lib.hid (readb hv4 (fun b hb => hb.2))
  have hlast := EE.out.2.1.net.last
  have hll := EE.out.2.2
  have HC := Lib.hid hc
  generalize n.last = last at *
  obtain ⟨t, rfl⟩ : ∃ t : Nat, last = (t : Int) := ⟨last.toNat, by omega⟩
  obtain ⟨b, hb⟩ : ∃ b, S[t]? = some b := ⟨_, List.getElem?_eq_getElem (by omega)⟩
  obtain ⟨g', o', rfl, c2⟩ := IV.out t b hb w4 (Below.refl _ _)
  have PB : Hid (P = b) := Lib.hid (by rw [EE.out.1]; exact v_get (by rw [Int.toNat_natCast]; exact hb))
  have j2 : (0 : Int) ≤ (t : Int) := by omega
  have j3 : (t : Int) < S.length := by omega
  generalize S.length = ls at *
  clear E0 E1 hc hb hv4 hlast hll
  go_wp2_with fail
  refine bodyPost_ret (v := .tuple #[.bool b, .int .i64 er]) (by simp [results, Tryz.results11, go_sem]) rfl ?_
  exact ⟨by rw [PB.out], DD4.out⟩
end NetTe
end Go.Proofs.YtkfeliogglnngaaGreat
