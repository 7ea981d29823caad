/- evaluate.Next and evaluate.Legal. Conditions: those of Values. Made by gnNx.py. -/
import Derived.Test.YtkfeliogglnngaaGreatNetTr
namespace Go.Proofs.YtkfeliogglnngaaGreat
open Go Go.RowKit
namespace NetNx
open Kit LexM TermM TermI TermH NetM NetN NetK NetA NetC NetI NetMk NetNu NetOk NetEv NetBo NetMb NetS NetVa NetVv NetTr
set_option maxRecDepth 100000 in
set_option maxHeartbeats 3200000 in
theorem next_any (n : Nt) (h : Nh) (st ip : List Int) (B : Nat) (w : World) (vs vi : Value) (hB : B ≤ w.heap.size) (k : NetIn (· < B) w n h) (hz : SzN n) (hs : RowE KN (· < B) w st vs) (hi : RowE KN (· < B) w ip vi) :
    Calls Tryz.prog 38 #[.agg #[.slice h.gp n.gates.length h.gc, .slice h.rp n.roles.length h.rc, .slice h.bp n.bases.length h.bc, .slice h.ip n.inputs.length h.ic, .slice h.ap n.initial.length h.ac, .slice h.np n.next.length h.nc, .slice h.lp n.legal.length h.lc, .slice h.op n.goals.length h.oc, .slice h.sp n.sees.length h.sc, .int .i64 n.last, .bool n.hid], vs, vi] w (NumE (posE groundB st ip n n.next) (evE groundB st ip n) w) := by
  obtain ⟨W1, hW1⟩ : ∃ z, z = w.alloc (.cells #[.slice h.gp n.gates.length h.gc, .slice h.rp n.roles.length h.rc, .slice h.bp n.bases.length h.bc, .slice h.ip n.inputs.length h.ic, .slice h.ap n.initial.length h.ac, .slice h.np n.next.length h.nc, .slice h.lp n.legal.length h.lc, .slice h.op n.goals.length h.oc, .slice h.sp n.sees.length h.sc, .int .i64 n.last, .bool n.hid] 28) := ⟨_, rfl⟩
  have K1 : Hid (Below w.heap.size w W1) := Lib.hid (by rw [hW1]; exact below_alloc _ _)
  have H1 : Hid (Has W1 w.heap.size (netC n h)) := Lib.hid (by rw [hW1]; exact Has.new _ _ _)
  have hzz := K1.out.size
  have KW := Lib.hid (fun w' (q : Below W1.heap.size W1 w') => show Below w.heap.size w w' from K1.out.trans (q.mono hzz))
  have NK := Lib.hid (fun w' (q : Below W1.heap.size W1 w') => k.deep (KW.out w' q) hB)
  have HQ := Lib.hid (fun w' (q : Below W1.heap.size W1 w') => hasN (H1.out.step0 q))
  have C1 := Lib.hid (trues_any n h st ip n.next B W1 (.slice h.np n.next.length h.nc) vs vi (Nat.le_trans hB hzz) (NK.out W1 (Below.refl _ _)) hz (hs.keep fun b o (hb : b < B) => K1.out.cell (p := ⟨b, o, none⟩) (Nat.lt_of_lt_of_le hb hB)) (hi.keep fun b o (hb : b < B) => K1.out.cell (p := ⟨b, o, none⟩) (Nat.lt_of_lt_of_le hb hB)) (NK.out W1 (Below.refl _ _)).next (fun o => o.nexts) hz.next)
  obtain ⟨psl, csl, rfl⟩ := hs.form
  obtain ⟨pil, cil, rfl⟩ := hi.form
  clear k hz hs hi
  obtain ⟨q1, q2, q3, q4, q5, q6, q7, q8, q9, q10, q11⟩ := HQ.out W1 (Below.refl _ _)
  generalize (posE groundB st ip n n.next) = L at *
  generalize (evE groundB st ip n) = er at *
  go_enter Tryz.func38, Tryz.ntmps38
  go_upto_region 1 with fail
  rw [← hW1]
  clear hW1
  go_wp2_with fail
  refine C1.out.mono ?_
  rintro e w4 ⟨v4, rfl, hv4, g4⟩
  have DD4 := Lib.hid (KW.out _ (next0 (Below.refl W1.heap.size W1) g4))
  have R4 := Lib.hid (hv4.wide (ok' := fun b => w.heap.size ≤ b ∧ b < w4.heap.size) fun _ hb => ⟨Nat.le_trans hzz hb.1, hb.2⟩)
  obtain ⟨p4, c4, rfl⟩ := hv4.form
  clear g4 C1 hv4 q1 q2 q3 q4 q5 q6 q7 q8 q9 q10 q11
  go_wp2_with fail
  refine bodyPost_ret (v := .tuple #[.slice p4 L.length c4, .int .i64 er]) (by simp [results, Tryz.results38, go_sem]) rfl ?_
  exact NumE.mk R4.out DD4.out
set_option maxRecDepth 100000 in
set_option maxHeartbeats 3200000 in
theorem legal_any (n : Nt) (h : Nh) (st : List Int) (B : Nat) (w : World) (vs : Value) (hB : B ≤ w.heap.size) (k : NetIn (· < B) w n h) (hz : SzN n) (hs : RowE KN (· < B) w st vs) :
    Calls Tryz.prog 9 #[.agg #[.slice h.gp n.gates.length h.gc, .slice h.rp n.roles.length h.rc, .slice h.bp n.bases.length h.bc, .slice h.ip n.inputs.length h.ic, .slice h.ap n.initial.length h.ac, .slice h.np n.next.length h.nc, .slice h.lp n.legal.length h.lc, .slice h.op n.goals.length h.oc, .slice h.sp n.sees.length h.sc, .int .i64 n.last, .bool n.hid], vs] w (NumE (posE groundB st [] n n.legal) (evE groundB st [] n) w) := by
  obtain ⟨W1, hW1⟩ : ∃ z, z = w.alloc (.cells #[.slice h.gp n.gates.length h.gc, .slice h.rp n.roles.length h.rc, .slice h.bp n.bases.length h.bc, .slice h.ip n.inputs.length h.ic, .slice h.ap n.initial.length h.ac, .slice h.np n.next.length h.nc, .slice h.lp n.legal.length h.lc, .slice h.op n.goals.length h.oc, .slice h.sp n.sees.length h.sc, .int .i64 n.last, .bool n.hid] 28) := ⟨_, rfl⟩
  have K1 : Hid (Below w.heap.size w W1) := Lib.hid (by rw [hW1]; exact below_alloc _ _)
  have H1 : Hid (Has W1 w.heap.size (netC n h)) := Lib.hid (by rw [hW1]; exact Has.new _ _ _)
  have hzz := K1.out.size
  have KW := Lib.hid (fun w' (q : Below W1.heap.size W1 w') => show Below w.heap.size w w' from K1.out.trans (q.mono hzz))
  have NK := Lib.hid (fun w' (q : Below W1.heap.size W1 w') => k.deep (KW.out w' q) hB)
  have HQ := Lib.hid (fun w' (q : Below W1.heap.size W1 w') => hasN (H1.out.step0 q))
  have C1 := Lib.hid (trues_any n h st [] n.legal B W1 (.slice h.lp n.legal.length h.lc) vs (.slice none 0 0) (Nat.le_trans hB hzz) (NK.out W1 (Below.refl _ _)) hz (hs.keep fun b o (hb : b < B) => K1.out.cell (p := ⟨b, o, none⟩) (Nat.lt_of_lt_of_le hb hB)) (RowE.nil _ _) (NK.out W1 (Below.refl _ _)).legal (fun o => o.legals) hz.legal)
  obtain ⟨psl, csl, rfl⟩ := hs.form
  clear k hz hs
  obtain ⟨q1, q2, q3, q4, q5, q6, q7, q8, q9, q10, q11⟩ := HQ.out W1 (Below.refl _ _)
  generalize (posE groundB st [] n n.legal) = L at *
  generalize (evE groundB st [] n) = er at *
  go_enter Tryz.func9, Tryz.ntmps9
  go_upto_region 1 with fail
  rw [← hW1]
  clear hW1
  go_wp2_with fail
  refine C1.out.mono ?_
  rintro e w4 ⟨v4, rfl, hv4, g4⟩
  have DD4 := Lib.hid (KW.out _ (next0 (Below.refl W1.heap.size W1) g4))
  have R4 := Lib.hid (hv4.wide (ok' := fun b => w.heap.size ≤ b ∧ b < w4.heap.size) fun _ hb => ⟨Nat.le_trans hzz hb.1, hb.2⟩)
  obtain ⟨p4, c4, rfl⟩ := hv4.form
  clear g4 C1 hv4 q1 q2 q3 q4 q5 q6 q7 q8 q9 q10 q11
  go_wp2_with fail
  refine bodyPost_ret (v := .tuple #[.slice p4 L.length c4, .int .i64 er]) (by simp [results, Tryz.results9, go_sem]) rfl ?_
  exact NumE.mk R4.out DD4.out
end NetNx
end Go.Proofs.YtkfeliogglnngaaGreat
