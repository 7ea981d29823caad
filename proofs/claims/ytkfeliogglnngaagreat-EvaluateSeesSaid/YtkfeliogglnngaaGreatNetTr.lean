/- evaluate.trues: the positions of the gates of a list that are true. Conditions: those of Values; a list of at most a million numbers. Made by gnTr.py. -/
import Derived.Test.YtkfeliogglnngaaGreatNetVv
namespace Go.Proofs.YtkfeliogglnngaaGreat
open Go Go.RowKit
namespace NetTr
open Kit LexM TermM TermI TermH NetM NetN NetK NetA NetC NetI NetMk NetNu NetOk NetEv NetBo NetMb NetS NetVa NetVv
/-- Numbers and an error. -/
def NumE (L : List Int) (er : Int) (w : World) (e : Ending) (w' : World) : Prop := ∃ v, e = .returned (.tuple #[v, .int .i64 er]) ∧ RowE KN (fun b => w.heap.size ≤ b ∧ b < w'.heap.size) w' L v ∧ Below w.heap.size w w'
theorem NumE.mk {L : List Int} {er : Int} {w w' : World} {v : Value} (h : RowE KN (fun b => w.heap.size ≤ b ∧ b < w'.heap.size) w' L v) (h2 : Below w.heap.size w w') : NumE L er w (.returned (.tuple #[v, .int .i64 er])) w' := ⟨v, rfl, h, h2⟩
set_option maxRecDepth 100000 in
set_option maxHeartbeats 6400000 in
theorem trues_any (n : Nt) (h : Nh) (st ip l : List Int) (B : Nat) (w : World) (vl vs vi : Value) (hB : B ≤ w.heap.size) (k : NetIn (· < B) w n h) (hz : SzN n) (hs : RowE KN (· < B) w st vs) (hi : RowE KN (· < B) w ip vi) (hl : RowE KN (· < B) w l vl) (hr : NOk n → ∀ x ∈ l, 0 ≤ x ∧ x < (n.gates.length : Int)) (hlm : l.length ≤ 1000000) :
    Calls Tryz.prog 39 #[.agg #[.slice h.gp n.gates.length h.gc, .slice h.rp n.roles.length h.rc, .slice h.bp n.bases.length h.bc, .slice h.ip n.inputs.length h.ic, .slice h.ap n.initial.length h.ac, .slice h.np n.next.length h.nc, .slice h.lp n.legal.length h.lc, .slice h.op n.goals.length h.oc, .slice h.sp n.sees.length h.sc, .int .i64 n.last, .bool n.hid], vl, vs, vi] w (NumE (posE groundB st ip n l) (evE groundB st ip n) w) := by
  obtain ⟨i0, hi0, hi1, hi2, hi3⟩ := info_parts Tryz.infoN
  obtain ⟨W1, hW1⟩ : ∃ z, z = w.alloc (.cells #[.slice h.gp n.gates.length h.gc, .slice h.rp n.roles.length h.rc, .slice h.bp n.bases.length h.bc, .slice h.ip n.inputs.length h.ic, .slice h.ap n.initial.length h.ac, .slice h.np n.next.length h.nc, .slice h.lp n.legal.length h.lc, .slice h.op n.goals.length h.oc, .slice h.sp n.sees.length h.sc, .int .i64 n.last, .bool n.hid] 28) := ⟨_, rfl⟩
  have K1 : Hid (Below w.heap.size w W1) := Lib.hid (by rw [hW1]; exact below_alloc _ _)
  have H1 : Hid (Has W1 w.heap.size (netC n h)) := Lib.hid (by rw [hW1]; exact Has.new _ _ _)
  have hzz := K1.out.size
  have KW := Lib.hid (fun w' (q : Below W1.heap.size W1 w') => show Below w.heap.size w w' from K1.out.trans (q.mono hzz))
  have NK := Lib.hid (fun w' (q : Below W1.heap.size W1 w') => k.deep (KW.out w' q) hB)
  have HQ := Lib.hid (fun w' (q : Below W1.heap.size W1 w') => hasN (H1.out.step0 q))
  obtain ⟨pll, cll, rfl⟩ := hl.form
  have E0 : Hid (evE groundB st ip n = 0 → posE groundB st ip n l = numsTo (l.map (vAt (evV groundB st ip n))) l.length ∧ EOk st ip n ∧ (evV groundB st ip n).length = n.gates.length) := Lib.hid (fun e => ⟨by rw [pose_ok e, pos_all, evv_ok e], eok e, by rw [evv_ok e, valsn_len]⟩)
  have E1 : Hid (evE groundB st ip n ≠ 0 → posE groundB st ip n l = []) := Lib.hid (fun e => pose_no e)
  have PY := Lib.hid (fun V k x (hx : (l)[k]? = some x) => pos_yes (V := V) hx)
  have PO := Lib.hid (fun V k x (hx : (l)[k]? = some x) => pos_no (V := V) hx)
  have HR := Lib.hid hr
  have IR := Lib.hid (readn (hl.keep fun b o (hb : b < B) => K1.out.cell (p := ⟨b, o, none⟩) (Nat.lt_of_lt_of_le hb hB)) (fun b (hb : b < B) => Nat.lt_of_lt_of_le (Nat.lt_of_lt_of_le hb hB) hzz))
  have C1 := Lib.hid (values_any n h st ip B W1 vs vi (Nat.le_trans hB hzz) (NK.out W1 (Below.refl _ _)) hz (hs.keep fun b o (hb : b < B) => K1.out.cell (p := ⟨b, o, none⟩) (Nat.lt_of_lt_of_le hb hB)) (hi.keep fun b o (hb : b < B) => K1.out.cell (p := ⟨b, o, none⟩) (Nat.lt_of_lt_of_le hb hB)))
  obtain ⟨psl, csl, rfl⟩ := hs.form
  obtain ⟨pil, cil, rfl⟩ := hi.form
  clear k hz hs hi hl hr
  obtain ⟨q1, q2, q3, q4, q5, q6, q7, q8, q9, q10, q11⟩ := HQ.out W1 (Below.refl _ _)
  generalize posE groundB st ip n l = P at *
  generalize evV groundB st ip n = S at *
  generalize evE groundB st ip n = er at *
  go_enter Tryz.func39, Tryz.ntmps39
  go_upto_region 1 with fail
  rw [← hW1]
  clear hW1
  go_wp2_with fail
  refine C1.out.mono ?_
  rintro e w4 ⟨v4, rfl, hv4, g4⟩
  have D4 := Lib.hid (next0 (Below.refl W1.heap.size W1) g4)
  have DD4 := Lib.hid (KW.out _ D4.out)
  clear g4 C1 q1 q2 q3 q4 q5 q6 q7 q8 q9 q10 q11
  obtain ⟨p4, c4, rfl⟩ := hv4.form
  by_cases hc : er = 0
  rotate_left
  · have e0 := Lib.hid (E1.out hc)
    have i1 : (er != 0) = true := by simp [hc]
    clear E0 E1 hc
    go_wp2_with fail
    refine bodyPost_ret (v := .tuple #[.slice none 0 0, .int .i64 er]) (by simp [results, Tryz.results39, go_sem]) rfl ?_
    rw [e0.out]
    exact NumE.mk (RowE.nil _ _) DD4.out
  have i1 : (er != 0) = false := by simp [hc]
  have EE := Lib.hid (E0.out hc)
  have HC := Lib.hid hc
  have HR2 := Lib.hid (HR.out EE.out.2.1.net)
  have IV := Lib.hid (readb hv4 (fun b hb => hb.2))
  have NSo := Lib.hid (nil_own w4.heap.size w4 3 1)
  clear E0 E1 hc HR hv4
  generalize hgn : l.length = m at *
  have HM := Lib.hid hgn
  clear hgn
  obtain ⟨q1, q2, q3, q4, q5, q6, q7, q8, q9, q10, q11⟩ := HQ.out w4 D4.out
  generalize hg0 : w4.heap.size = g0 at *
  have HG0 := Lib.hid hg0
  clear hg0
  generalize hls : S.length = ls at *
  have HLS := Lib.hid hls
  clear hls
  go_wp2_with fail
  clear q1 q2 q3 q4 q5 q6 q7 q8 q9 q10 q11
  go_loopw [12, 27] (fun u3 i wr => ∃ (k : Nat) (F : List Int), k ≤ m ∧ i = .int .i64 k ∧ Hid (F = numsTo (l.map (vAt S)) k) ∧ Hid (wr.ownsRow g0 3 1 u3 F.length (NetI.numV F)) ∧ Hid (∀ x ∈ F, I64 x) ∧ Hid (Below g0 w4 wr)) (fun _ i _ => m - (intOf i).toNat)
  case atStart => exact ⟨0, [], Nat.zero_le _, rfl, Lib.hid rfl, NSo, Lib.hid (fun x hx => by cases hx), Lib.hid (Below.refl _ _)⟩
  case round =>
    obtain ⟨k, F, hkn, rfl, hF, hO, hI, hD⟩ := hrel
    obtain ⟨va, vc, rfl⟩ := form1 hO.out
    have hFl : F.length ≤ k := by have := nums_len (l.map (vAt S)) k; rw [← hF.out] at this; exact this
    have DW : Hid (Below W1.heap.size W1 wr) := Lib.hid (next0 D4.out (by rw [HG0.out]; exact hD.out))
    obtain ⟨q1, q2, q3, q4, q5, q6, q7, q8, q9, q10, q11⟩ := HQ.out wr DW.out
    by_cases hlt : k < m
    · obtain ⟨x, hx⟩ : ∃ x, (l)[k]? = some x := ⟨(l)[k]'(by rw [HM.out]; exact hlt), by simp⟩
      obtain ⟨g, o, rfl, c1⟩ := IR.out k x hx wr DW.out
      have hxr := HR2.out x (List.mem_of_getElem? hx)
      obtain ⟨t, rfl⟩ : ∃ t : Nat, x = (t : Int) := ⟨x.toNat, by omega⟩
      obtain ⟨b, hb⟩ : ∃ b, S[t]? = some b := ⟨_, List.getElem?_eq_getElem (by have h1 := HLS.out; have h2 := EE.out.2.2; omega)⟩
      obtain ⟨g', o', rfl, c2⟩ := IV.out t b hb wr hD.out
      have VX : Hid (vAt S (t : Int) = b) := Lib.hid (v_get (by rw [Int.toNat_natCast]; exact hb))
      have j0 : (0 : Int) ≤ (k : Int) := by omega
      have j1 : (k : Int) < m := by omega
      have j2 : (0 : Int) ≤ (t : Int) := by omega
      have j3 : (t : Int) < ls := by have h2 := EE.out.2.2; omega
      have hzr : g0 ≤ wr.heap.size := by have h1 := HG0.out; have h2 := hD.out.size; omega
      cases b
      · have F2 : Hid (F = numsTo (l.map (vAt S)) (k + 1)) := Lib.hid (by rw [PO.out S k _ hx VX.out]; exact hF.out)
        clear hx hb hxr VX
        go_wp2_with fail
        go_roundw
        case rel => first | exact ⟨k + 1, F, by omega, by go_num, F2, hO, hI, hD⟩ | ((repeat (apply Exists.intro)); refine ⟨?_, rfl⟩; exact ⟨k + 1, F, by omega, by go_num, F2, hO, hI, hD⟩)
        case measure => simp [intOf]; omega
      · have F2 : Hid (F ++ [(k : Int)] = numsTo (l.map (vAt S)) (k + 1)) := Lib.hid (by rw [PY.out S k _ hx VX.out, ← hF.out])
        have I2 : Hid (∀ y ∈ F ++ [(k : Int)], I64 y) := Lib.hid (fun y hy => by
          rcases List.mem_append.1 hy with hy | hy
          · exact hI.out y hy
          · rw [List.mem_singleton.1 hy]
            unfold I64
            omega)
        have AA1 : F.length + 1 ≤ maxLen := by unfold maxLen; omega
        have AA2 : (F.length + 1) * 8 ≤ 140737488355328 := by omega
        have AA3 : g0 ≤ (wr.alloc (.cells #[.int .i64 (k : Int)] 3)).heap.size := by simp <;> omega
        clear hx hb hxr VX
        go_wp2_with (at_builtin; go_must (refine wpList_append_lies _ rfl _ _ 25 rfl g0 3 i0 (.int .i64 0) 1 8 Tryz.underlying25 hi0 hi1 hi2 hi3 rfl (by decide) (.slice va F.length vc) F.length (NetI.numV F) rfl (hO.out.alloc _) ⟨wr.heap.size, 0, none⟩ 1 1 [.int .i64 k] rfl rfl (World.news_of_block (heap_alloc_new wr _)) (one_int k) (by decide) AA1 AA2 AA3 (wr.heap.size + 1) (by simp) ?_; intro g6 c6 w6 hown6 hgrow6 hat6 hlt6; have O6 : Hid (w6.ownsRow g0 3 1 (.slice (some ⟨g6, 0, none⟩) (F.length + 1) c6) (F ++ [(k : Int)]).length (NetI.numV (F ++ [(k : Int)]))) := Lib.hid (by rw [List.length_append, NetI.numv_app]; exact hown6); have D6 := Lib.hid ((hD.out.alloc hzr (.cells #[.int .i64 k] 3)).grown hgrow6 (by simp <;> omega) (fun j hj => (hO.out.lt j hj).1)); clear hown6 hgrow6 hat6 hlt6))
        go_roundw
        case rel => first | exact ⟨k + 1, F ++ [(k : Int)], by omega, by go_num, F2, O6, I2, D6⟩ | ((repeat (apply Exists.intro)); refine ⟨?_, rfl⟩; exact ⟨k + 1, F ++ [(k : Int)], by omega, by go_num, F2, O6, I2, D6⟩)
        case measure => simp [intOf]; omega
    · obtain rfl : k = m := by omega
      have R7 := Lib.hid (own_row hO.out hI.out)
      have FE : Hid (P = F) := Lib.hid (by rw [hF.out, EE.out.1])
      have DF : Hid (Below w.heap.size w wr) := Lib.hid (KW.out _ DW.out)
      have hzw : w.heap.size ≤ g0 := by have h1 := HG0.out; have h2 := DD4.out.size; omega
      have R8 : Hid (RowE KN (fun b => w.heap.size ≤ b ∧ b < wr.heap.size) wr F (.slice va F.length vc)) := Lib.hid (R7.out.wide fun b hb => ⟨by omega, hb.2⟩)
      go_wp2_with fail
      refine bodyPost_ret (v := .tuple #[.slice va F.length vc, .int .i64 0]) (by simp [results, Tryz.results39, go_sem]) rfl ?_
      rw [FE.out, HC.out]
      exact NumE.mk R8.out DF.out
end NetTr
end Go.Proofs.YtkfeliogglnngaaGreat
