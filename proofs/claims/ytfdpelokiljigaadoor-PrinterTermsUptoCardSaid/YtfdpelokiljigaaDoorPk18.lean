/- Texts laid together: ParX3; ParY; PriN. Their own heads stand before each. -/
import Derived.Test.YtfdpelokiljigaaDoorPk17
import Derived.Test.YtfdpelokiljigaaDoorPk11
/- whole for a rule; made by genparx3.py. Condition: the reserved words lie as laid. -/
namespace Go.Proofs.YtfdpelokiljigaaDoor
open Go Go.RowKit
namespace ParX3
open Kit LexM TermM TermI TermU LexE LexF LexG LexP ParM ParA ParB ParC ParD ParK ParE ParF ParG ParH ParI ParW ParV ParX
/-- What whole leaves, of a rule. -/
def WrR (w : World) (o : Out Rl) (e : Ending) (w' : World) : Prop :=
  (∃ x p c q d, o = .good x [] ∧ e = .returned (.tuple #[.agg #[.string x.1.nm, .slice p x.1.args.length c, .slice q x.2.length d], .int .i64 0, .int .i64 0]) ∧ KR.inn (fun b => w.heap.size ≤ b ∧ b < w'.heap.size) w' (x, .slice p x.1.args.length c, .slice q x.2.length d) ∧ Below w.heap.size w w') ∨
  (∃ a er, o = .bad a er ∧ e = .returned (.tuple #[.agg #[.string ⟨#[]⟩, .slice none 0 0, .slice none 0 0], .int .i64 a, .int .i64 er]) ∧ Below w.heap.size w w')
set_option maxRecDepth 100000 in
set_option maxHeartbeats 6400000 in
theorem whole_rl (s : ByteArray) (w : World) (hw : Wd w) (hs : s.size ≤ 140737488355328) :
    Calls Tryd.prog 42 #[.string s, .func (.func 43) #[] #[]] w (WrR w (wholeF (ruleF) s.data.toList)) := by
  have hmf : ∀ (fn : Fn) (first cap : Array Value) (w : World), (Instr.makeFunc fn first cap).run Tryd.prog w = .ok (.func fn first cap) w := fun _ _ _ _ => rfl
  obtain ⟨W1, hW1⟩ : ∃ W1, W1 = ((w.alloc (.cells #[.string ⟨#[]⟩, .slice none 0 0, .slice none 0 0] 27)).alloc (.cells #[.int .i64 0] 3)).alloc (.cells #[.int .i64 0] 38) := ⟨_, rfl⟩
  have G1 : Below w.heap.size w W1 := by rw [hW1]; exact (((below_alloc w _).alloc (by simp) _).alloc (by simp; omega) _)
  have HV : Has W1 w.heap.size #[.string ⟨#[]⟩, .slice none 0 0, .slice none 0 0] := by rw [hW1]; exact ((Has.new w _ _).alloc _).alloc _
  have HA : Has W1 (w.heap.size + 1) #[.int .i64 0] := by rw [hW1]; exact (Has.new1 w _ _ _).alloc _
  have HE : Has W1 (w.heap.size + 1 + 1) #[.int .i64 0] := by rw [hW1]; exact Has.new2 w _ _ _ _
  have hz : W1.heap.size = w.heap.size + 3 := by rw [hW1]; simp
  have HL := lex_any s W1 (hw.below G1 hw.1) hs
  have LE := fun h => lexR_end (l := s.data.toList) h
  by_cases h0 : (lexR s.data.toList).2.2 = 0
  · have HO : Hid (wholeF (ruleF) s.data.toList = (ruleF ((lexR s.data.toList).1.map gt)).then fun x r => if (hd r).1 = 0 then .good x [] else .bad (hd r).2.2 1) := Lib.hid (by unfold wholeF; rw [if_pos h0])
    have HL2 := Lib.hid (lexed_ok2 HL h0)
    obtain ⟨e1, e2, e3⟩ := LE h0
    generalize wholeF (ruleF) s.data.toList = O at *
    have hlen : (lexR s.data.toList).1.length = ((lexR s.data.toList).1.map gt).length := by simp
    have HLN := Lib.hid hlen
    generalize lexR s.data.toList = R at *
    have L1 := Lib.hid e1
    have L2 := Lib.hid e2
    have GV := Lib.hid HV
    have GA := Lib.hid HA
    have GE := Lib.hid HE
    have GG := Lib.hid G1
    have HZ := Lib.hid hz
    clear HL LE h0 HV HA HE G1 hz e1 e2 e3 hlen
    unfold WrR
    go_enter_defers Tryd.func42, Tryd.ntmps42
    go_upto_region 1 with fail
    rw [← hW1]
    clear hW1
    go_wp2_with fail
    refine HL2.out.mono ?_
    rintro e w2 ⟨g, cap, rfl, k1, k2, k3, k4, k⟩
    have V2 := Lib.hid (GV.out.step0 k)
    have A2 := Lib.hid (GA.out.step0 k)
    have E2 := Lib.hid (GE.out.step0 k)
    have G2 := Lib.hid (next0 GG.out k)
    have hgz : w.heap.size + 3 ≤ g := by have := HZ.out; omega
    have T2 := Lib.hid k3
    clear k HL2 GV GA GE GG k3 k4
    have y1 := A2.out.cell 0
    have y2 := A2.out.free 0
    have y3 := A2.out.lt
    have z1 := E2.out.cell 0
    have z2 := E2.out.free 0
    have z3 := E2.out.lt
    simp only [List.getElem?_toArray, List.getElem?_cons_zero] at y1 z1
    go_upto_region 2 with fail
    obtain ⟨W5, hW5⟩ : ∃ W5, W5 = (w2.setCell ⟨w.heap.size + 1, 0, none⟩ (.int .i64 0)).setCell ⟨w.heap.size + 1 + 1, 0, none⟩ (.int .i64 0) := ⟨_, rfl⟩
    have V5 : Has W5 w.heap.size #[.string ⟨#[]⟩, .slice none 0 0, .slice none 0 0] := by rw [hW5]; exact (V2.out.far (by show w.heap.size ≠ w.heap.size + 1; omega) _).far (by show w.heap.size ≠ w.heap.size + 1 + 1; omega) _
    have A5 : Has W5 (w.heap.size + 1) #[.int .i64 0] := by rw [hW5]; exact (A2.out.set 0 _).far (by show w.heap.size + 1 ≠ w.heap.size + 1 + 1; omega) _
    have E5 : Has W5 (w.heap.size + 1 + 1) #[.int .i64 0] := by rw [hW5]; exact (E2.out.far (by show w.heap.size + 1 + 1 ≠ w.heap.size + 1; omega) _).set 0 _
    have G5 := Lib.hid (show Below w.heap.size w W5 by rw [hW5]; exact (G2.out.setCell (by show w.heap.size ≤ w.heap.size + 1; omega) _).setCell (by show w.heap.size ≤ w.heap.size + 1 + 1; omega) _)
    have T5 : Toks W5 g 0 (R.1.map gt) := by
      have hc : ∀ off, W5.cell? ⟨g, off, none⟩ = w2.cell? ⟨g, off, none⟩ := fun off => by
        rw [hW5]
        exact (cell_set (by show g ≠ w.heap.size + 1 + 1; omega) _).trans (cell_set (by show g ≠ w.heap.size + 1; omega) _)
      refine ⟨by rw [hW5, set_size, set_size]; exact T2.out.1, fun i t hi => ?_⟩
      rw [hc, hc, hc]
      exact T2.out.2 i t hi
    rw [← hW5]
    clear hW5 V2 A2 E2 G2 y1 y2 y3 z1 z2 z3 T2
    have z1 := E5.cell 0
    have z2 := E5.free 0
    have z3 := E5.lt
    simp only [List.getElem?_toArray, List.getElem?_cons_zero] at z1
    have V6 := Lib.hid V5
    have A6 := Lib.hid A5
    have E6 := Lib.hid E5
    have hgl := T5.1
    have T6 := Lib.hid T5
    clear V5 A5 E5 T5
    go_upto_region 6 with fail
    rw [HLN.out]
    rw [HLN.out] at k1
    clear HLN
    generalize R.1.map gt = ts at *
    clear R
    obtain ⟨W6, hW6⟩ : ∃ W6, W6 = W5.alloc (.cells #[.slice (some ⟨g, 0, none⟩) ts.length cap] 84) := ⟨_, rfl⟩
    have B6 : Below W5.heap.size W5 W6 := by rw [hW6]; exact below_alloc W5 _
    have R6 : Rd W6 W5.heap.size ts := ⟨L1.out, L2.out, g, 0, cap, by rw [hW6]; exact Has.new _ _ _, k1, k2, hgl, T6.out.below B6 hgl⟩
    have V7 := Lib.hid (V6.out.step0 B6)
    have A7 := Lib.hid (A6.out.step0 B6)
    have E7 := Lib.hid (E6.out.step0 B6)
    have G7 := Lib.hid (next0 G5.out B6)
    have hz6 : W5.heap.size < W6.heap.size := by rw [hW6]; simp
    have hr : w.heap.size + 3 ≤ W5.heap.size := by omega
    rw [← hW6]
    have HT := Lib.hid (rule_any _ W6 ts R6)
    clear hW6 B6 V6 A6 E6 G5 z1 z2 z3 L1 L2 T6 k1 k2 R6
    generalize W5.heap.size = r at *
    generalize ruleF ts = OT at *
    unfold RlR at HT
    go_wp2_with fail
    refine HT.out.mono ?_
    rintro e w7 (⟨t', ts7, p, c, q, d, hO, rfl, hs, hR, hC⟩ | ⟨a, er, hO, rfl, hC⟩)
    case inr =>
      have HO3 : Hid (O = .bad a er) := Lib.hid (by rw [HO.out, hO]; rfl)
      have V8 := hC.has V7.out (by omega)
      have A8 := hC.has A7.out (by omega)
      have E8 := hC.has E7.out (by omega)
      have G8 : Below w.heap.size w w7 := G7.out.trans (hC.toBelow (by omega) (by omega))
      go_wp2_with fail
      refine leaves_cons (f := 63) (args := #[.pointer (some ⟨w.heap.size + 1, 0, none⟩), .pointer (some ⟨w.heap.size + 1 + 1, 0, none⟩)]) (by simp) (by simp [go_sem]) ?_
      refine (catch_rl (w.heap.size + 1) (w.heap.size + 1 + 1) _ _ (a) (er) w7 (by omega) A8 E8).mono ?_
      rintro e u' wz ⟨rfl, rfl, A9, E9, k9⟩
      have V9 := k9.has V8 (by omega) (by omega)
      have G9 := Lib.hid (G8.trans (k9.toBelow (B := w.heap.size) (by omega) (by omega) G8.size))
      obtain ⟨p1, p2, p3, p4, p5, p6, p7⟩ := has3 V9
      have q1 := A9.cell 0
      have r1 := E9.cell 0
      simp only [List.getElem?_toArray, List.getElem?_cons_zero] at q1 r1
      show ∃ v, (results _ _).run _ wz = .ok v wz ∧ _
      exact ⟨.tuple #[.agg #[.string ⟨#[]⟩, .slice none 0 0, .slice none 0 0], .int .i64 (a), .int .i64 (er)], by simp [results, Tryd.results42, go_sem, p1, p2, p3, q1, r1], Or.inr ⟨_, _, HO3.out, rfl, G9.out⟩⟩
    case inl =>
      have V8 := hC.has V7.out (by omega)
      have A8 := hC.has A7.out (by omega)
      have E8 := hC.has E7.out (by omega)
      have G8 : Below w.heap.size w w7 := G7.out.trans (hC.toBelow (by omega) (by omega))
      obtain ⟨W8, hW8⟩ : ∃ W8, W8 = w7.alloc (.cells #[.string t'.1.nm, .slice p t'.1.args.length c, .slice q t'.2.length d] 27) := ⟨_, rfl⟩
      have B8 : Below w7.heap.size w7 W8 := by rw [hW8]; exact below_alloc w7 _
      have N9 : Has W8 w7.heap.size #[.string t'.1.nm, .slice p t'.1.args.length c, .slice q t'.2.length d] := by rw [hW8]; exact Has.new _ _ _
      have HN := Lib.hid (next_any W8 r ts7 (hR.below B8))
      have HR8 := Lib.hid (hR.below B8)
      have V10 := V8.step0 B8
      have A10 := A8.step0 B8
      have E10 := E8.step0 B8
      have G10 := next0 G8 B8
      have hq : r < w7.heap.size := hR.lt
      have S10 := Lib.hid (KR.keep (w' := W8) hs (fun b o hb => B8.cell (p := ⟨b, o, none⟩) hb.2))
      have HO3 : Hid (O = if (hd ts7).1 = 0 then .good t' [] else .bad (hd ts7).2.2 1) := Lib.hid (by rw [HO.out, hO]; rfl)
      clear HT HO hO hs hR hC V7 A7 E7 G7 V8 A8 E8 G8
      go_upto_region 7 with fail
      rw [← hW8]
      have hz8 : W8.heap.size = w7.heap.size + 1 := by rw [hW8]; simp
      clear hW8 B8
      have F0 := fld0
      go_wp2_with fail
      refine HN.out.mono ?_
      rintro e w9 ⟨rfl, k9⟩
      have V11 := V10.step0 k9
      have A11 := A10.step0 k9
      have E11 := E10.step0 k9
      have G11 := next0 G10 k9
      have N11 := N9.step0 k9
      have HR9 := Lib.hid (HR8.out.below k9)
      have S11 := Lib.hid (KR.keep (w' := w9) S10.out (fun b o hb => k9.cell (p := ⟨b, o, none⟩) (by show b < W8.heap.size; have : b < w7.heap.size := hb.2; omega)))
      have hz9 := k9.size
      clear k9 V10 A10 E10 G10 N9 HR8 S10 HN
      by_cases ht : (hd ts7).1 = 0
      · have HO4 : Hid (O = .good t' []) := Lib.hid (by rw [HO3.out, if_pos ht])
        have hb : ((hd ts7).1 != 0) = false := by simpa using ht
        have HF := Lib.hid (fail_no w9 r 1)
        clear HO3 ht HR9
        generalize hd ts7 = tk at *
        have VV := Lib.hid V11
        have AA := Lib.hid A11
        have EE := Lib.hid E11
        have GG := Lib.hid G11
        have NN := Lib.hid N11
        clear V11 A11 E11 G11 N11
        go_wp2_with fail
        refine HF.out.mono ?_
        rintro e wf ⟨rfl, rfl⟩
        have V11 := VV.out
        have A11 := AA.out
        have E11 := EE.out
        obtain ⟨x1, x2, x3, x4, x5, x6, x7⟩ := has3 VV.out
        obtain ⟨n1, n2, n3, n4, n5, n6, n7⟩ := has3 NN.out
        have y1 := AA.out.cell 0
        have y2 := AA.out.free 0
        have y3 := AA.out.lt
        have z1 := EE.out.cell 0
        have z2 := EE.out.free 0
        have z3 := EE.out.lt
        simp only [List.getElem?_toArray, List.getElem?_cons_zero] at y1 z1
        clear V11 A11 E11
        go_wp2_with fail
        obtain ⟨W13, hW13⟩ : ∃ W13, W13 = ((((w9.setCell ⟨w.heap.size, 0, none⟩ (.string t'.1.nm)).setCell ⟨w.heap.size, 1, none⟩ (.slice p t'.1.args.length c)).setCell ⟨w.heap.size, 2, none⟩ (.slice q t'.2.length d)).setCell ⟨w.heap.size + 1, 0, none⟩ (.int .i64 0)).setCell ⟨w.heap.size + 1 + 1, 0, none⟩ (.int .i64 0) := ⟨_, rfl⟩
        have V13 : Has W13 w.heap.size #[.string t'.1.nm, .slice p t'.1.args.length c, .slice q t'.2.length d] := by rw [hW13]; exact ((((VV.out.set 0 _).set 1 _).set 2 _).far (by show w.heap.size ≠ w.heap.size + 1; omega) _).far (by show w.heap.size ≠ w.heap.size + 1 + 1; omega) _
        have A13 : Has W13 (w.heap.size + 1) #[.int .i64 0] := by rw [hW13]; exact ((((AA.out.far (by show w.heap.size + 1 ≠ w.heap.size; omega) _).far (by show w.heap.size + 1 ≠ w.heap.size; omega) _).far (by show w.heap.size + 1 ≠ w.heap.size; omega) _).set 0 _).far (by show w.heap.size + 1 ≠ w.heap.size + 1 + 1; omega) _
        have E13 : Has W13 (w.heap.size + 1 + 1) #[.int .i64 0] := by rw [hW13]; exact ((((EE.out.far (by show w.heap.size + 1 + 1 ≠ w.heap.size; omega) _).far (by show w.heap.size + 1 + 1 ≠ w.heap.size; omega) _).far (by show w.heap.size + 1 + 1 ≠ w.heap.size; omega) _).far (by show w.heap.size + 1 + 1 ≠ w.heap.size + 1; omega) _).set 0 _
        have G13 : Below w.heap.size w W13 := by rw [hW13]; exact ((((GG.out.setCell (by show w.heap.size ≤ w.heap.size; omega) _).setCell (by show w.heap.size ≤ w.heap.size; omega) _).setCell (by show w.heap.size ≤ w.heap.size; omega) _).setCell (by show w.heap.size ≤ w.heap.size + 1; omega) _).setCell (by show w.heap.size ≤ w.heap.size + 1 + 1; omega) _
        have hz13 : W13.heap.size = w9.heap.size := by rw [hW13, set_size, set_size, set_size, set_size, set_size]
        have S13 := KR.keep (w' := W13) S11.out (fun b o hb => by
          have h1 : W6.heap.size ≤ b := hb.1
          rw [hW13]
          exact (cell_set (by show b ≠ w.heap.size + 1 + 1; omega) _).trans ((cell_set (by show b ≠ w.heap.size + 1; omega) _).trans ((cell_set (by show b ≠ w.heap.size; omega) _).trans ((cell_set (by show b ≠ w.heap.size; omega) _).trans (cell_set (by show b ≠ w.heap.size; omega) _)))))
        rw [← hW13]
        clear hW13 x1 x2 x3 x4 x5 x6 x7 y1 y2 y3 z1 z2 z3 n1 n2 n3 n4 n5 n6 n7
        refine leaves_cons (f := 63) (args := #[.pointer (some ⟨w.heap.size + 1, 0, none⟩), .pointer (some ⟨w.heap.size + 1 + 1, 0, none⟩)]) (by simp) (by simp [go_sem]) ?_
        refine (idle_rl (w.heap.size + 1) (w.heap.size + 1 + 1) W13).mono ?_
        rintro e u' wz ⟨rfl, rfl, k9⟩
        obtain ⟨p1, p2, p3, p4, p5, p6, p7⟩ := has3 (V13.step0 k9)
        have q1 := (A13.step0 k9).cell 0
        have r1 := (E13.step0 k9).cell 0
        simp only [List.getElem?_toArray, List.getElem?_cons_zero] at q1 r1
        show ∃ v, (results _ _).run _ wz = .ok v wz ∧ _
        refine ⟨.tuple #[.agg #[.string t'.1.nm, .slice p t'.1.args.length c, .slice q t'.2.length d], .int .i64 0, .int .i64 0], by simp [results, Tryd.results42, go_sem, p1, p2, p3, q1, r1], Or.inl ⟨t', p, c, q, d, HO4.out, rfl, ?_, next0 G13 k9⟩⟩
        refine KR.wide (KR.keep (w' := wz) S13 (fun b o hb => k9.cell (p := ⟨b, o, none⟩) (by show b < W13.heap.size; have : b < w7.heap.size := hb.2; omega))) (fun b hb => ?_)
        have h1 : W6.heap.size ≤ b := hb.1
        have h2 : b < w7.heap.size := hb.2
        have h3 := k9.size
        exact ⟨by omega, by omega⟩
      · have HO4 : Hid (O = .bad (hd ts7).2.2 1) := Lib.hid (by rw [HO3.out, if_neg ht])
        have hb : ((hd ts7).1 != 0) = true := by simpa using ht
        have HF := Lib.hid (fail_yes w9 r 1 ts7 HR9.out)
        clear HO3 ht HR9
        generalize hd ts7 = tk at *
        have VV := Lib.hid V11
        have AA := Lib.hid A11
        have EE := Lib.hid E11
        have GG := Lib.hid G11
        clear V11 A11 E11 G11 N11
        go_wp2_with fail
        refine HF.out.mono ?_
        rintro e wf ⟨rfl, kf⟩
        have V12 := VV.out.step0 kf
        have A12 := AA.out.step0 kf
        have E12 := EE.out.step0 kf
        have G12 := next0 GG.out kf
        clear kf HF
        go_wp2_with fail
        refine leaves_cons (f := 63) (args := #[.pointer (some ⟨w.heap.size + 1, 0, none⟩), .pointer (some ⟨w.heap.size + 1 + 1, 0, none⟩)]) (by simp) (by simp [go_sem]) ?_
        refine (catch_rl (w.heap.size + 1) (w.heap.size + 1 + 1) _ _ (tk.2.2) (1) wf (by omega) A12 E12).mono ?_
        rintro e u' wz ⟨rfl, rfl, A9, E9, k9⟩
        have V9 := k9.has V12 (by omega) (by omega)
        have G9 := Lib.hid (G12.trans (k9.toBelow (B := w.heap.size) (by omega) (by omega) G12.size))
        obtain ⟨p1, p2, p3, p4, p5, p6, p7⟩ := has3 V9
        have q1 := A9.cell 0
        have r1 := E9.cell 0
        simp only [List.getElem?_toArray, List.getElem?_cons_zero] at q1 r1
        show ∃ v, (results _ _).run _ wz = .ok v wz ∧ _
        exact ⟨.tuple #[.agg #[.string ⟨#[]⟩, .slice none 0 0, .slice none 0 0], .int .i64 (tk.2.2), .int .i64 (1)], by simp [results, Tryd.results42, go_sem, p1, p2, p3, q1, r1], Or.inr ⟨_, _, HO4.out, rfl, G9.out⟩⟩
  · have HO : Hid (wholeF (ruleF) s.data.toList = .bad (lexR s.data.toList).2.1 (lexR s.data.toList).2.2) := Lib.hid (by unfold wholeF; rw [if_neg h0])
    have HL2 := Lib.hid (lexed_err HL h0)
    generalize wholeF (ruleF) s.data.toList = O at *
    have hb0 : ((lexR s.data.toList).2.2 != 0) = true := by simpa using h0
    generalize lexR s.data.toList = R at *
    have GV := Lib.hid HV
    have GA := Lib.hid HA
    have GE := Lib.hid HE
    have GG := Lib.hid G1
    have HZ := Lib.hid hz
    clear HL LE h0 HV HA HE G1 hz
    unfold WrR
    go_enter_defers Tryd.func42, Tryd.ntmps42
    go_upto_region 1 with fail
    rw [← hW1]
    clear hW1
    go_wp2_with fail
    refine HL2.out.mono ?_
    rintro e w2 ⟨rfl, k⟩
    have V2 := Lib.hid (GV.out.step0 k)
    have A2 := Lib.hid (GA.out.step0 k)
    have E2 := Lib.hid (GE.out.step0 k)
    have G2 := Lib.hid (next0 GG.out k)
    clear k HL2 GV GA GE GG
    have y1 := A2.out.cell 0
    have y2 := A2.out.free 0
    have y3 := A2.out.lt
    have z1 := E2.out.cell 0
    have z2 := E2.out.free 0
    have z3 := E2.out.lt
    simp only [List.getElem?_toArray, List.getElem?_cons_zero] at y1 z1
    go_upto_region 2 with fail
    obtain ⟨W5, hW5⟩ : ∃ W5, W5 = (w2.setCell ⟨w.heap.size + 1, 0, none⟩ (.int .i64 R.2.1)).setCell ⟨w.heap.size + 1 + 1, 0, none⟩ (.int .i64 R.2.2) := ⟨_, rfl⟩
    have V5 : Has W5 w.heap.size #[.string ⟨#[]⟩, .slice none 0 0, .slice none 0 0] := by rw [hW5]; exact (V2.out.far (by show w.heap.size ≠ w.heap.size + 1; omega) _).far (by show w.heap.size ≠ w.heap.size + 1 + 1; omega) _
    have A5 : Has W5 (w.heap.size + 1) #[.int .i64 R.2.1] := by rw [hW5]; exact (A2.out.set 0 _).far (by show w.heap.size + 1 ≠ w.heap.size + 1 + 1; omega) _
    have E5 : Has W5 (w.heap.size + 1 + 1) #[.int .i64 R.2.2] := by rw [hW5]; exact (E2.out.far (by show w.heap.size + 1 + 1 ≠ w.heap.size + 1; omega) _).set 0 _
    have G5 := Lib.hid (show Below w.heap.size w W5 by rw [hW5]; exact (G2.out.setCell (by show w.heap.size ≤ w.heap.size + 1; omega) _).setCell (by show w.heap.size ≤ w.heap.size + 1 + 1; omega) _)
    rw [← hW5]
    clear hW5 V2 A2 E2 G2 y1 y2 y3 z1 z2 z3
    obtain ⟨x1, x2, x3, x4, x5, x6, x7⟩ := has3 V5
    have y1 := A5.cell 0
    have y2 := A5.free 0
    have y3 := A5.lt
    have z1 := E5.cell 0
    have z2 := E5.free 0
    have z3 := E5.lt
    simp only [List.getElem?_toArray, List.getElem?_cons_zero] at y1 z1
    have V6 := Lib.hid V5
    have A6 := Lib.hid A5
    have E6 := Lib.hid E5
    clear V5 A5 E5
    go_upto_region 3 with fail
    go_region
    go_wp2_with fail
    obtain ⟨W9, hW9⟩ : ∃ W9, W9 = (((((W5.setCell ⟨w.heap.size, 0, none⟩ (.string ⟨#[]⟩)).setCell ⟨w.heap.size, 1, none⟩ (.slice none 0 0)).setCell ⟨w.heap.size, 2, none⟩ (.slice none 0 0)).setCell ⟨w.heap.size + 1, 0, none⟩ (.int .i64 R.2.1)).setCell ⟨w.heap.size + 1 + 1, 0, none⟩ (.int .i64 R.2.2)).drew := ⟨_, rfl⟩
    have V9 : Has W9 w.heap.size #[.string ⟨#[]⟩, .slice none 0 0, .slice none 0 0] := by rw [hW9]; exact (((((V6.out.set 0 _).set 1 _).set 2 _).far (by show w.heap.size ≠ w.heap.size + 1; omega) _).far (by show w.heap.size ≠ w.heap.size + 1 + 1; omega) _).drew
    have A9 : Has W9 (w.heap.size + 1) #[.int .i64 R.2.1] := by rw [hW9]; exact (((((A6.out.far (by show w.heap.size + 1 ≠ w.heap.size; omega) _).far (by show w.heap.size + 1 ≠ w.heap.size; omega) _).far (by show w.heap.size + 1 ≠ w.heap.size; omega) _).set 0 _).far (by show w.heap.size + 1 ≠ w.heap.size + 1 + 1; omega) _).drew
    have E9 : Has W9 (w.heap.size + 1 + 1) #[.int .i64 R.2.2] := by rw [hW9]; exact (((((E6.out.far (by show w.heap.size + 1 + 1 ≠ w.heap.size; omega) _).far (by show w.heap.size + 1 + 1 ≠ w.heap.size; omega) _).far (by show w.heap.size + 1 + 1 ≠ w.heap.size; omega) _).far (by show w.heap.size + 1 + 1 ≠ w.heap.size + 1; omega) _).set 0 _).drew
    have G9 := Lib.hid (show Below w.heap.size w W9 by rw [hW9]; exact (((((G5.out.setCell (by show w.heap.size ≤ w.heap.size; omega) _).setCell (by show w.heap.size ≤ w.heap.size; omega) _).setCell (by show w.heap.size ≤ w.heap.size; omega) _).setCell (by show w.heap.size ≤ w.heap.size + 1; omega) _).setCell (by show w.heap.size ≤ w.heap.size + 1 + 1; omega) _).drew)
    rw [← hW9]
    clear hW9
    obtain ⟨p1, p2, p3, p4, p5, p6, p7⟩ := has3 V9
    have q1 := A9.cell 0
    have r1 := E9.cell 0
    simp only [List.getElem?_toArray, List.getElem?_cons_zero] at q1 r1
    simp [bodyPostD, Leaves, results, Tryd.results42, go_sem, p1, p2, p3, q1, r1]
    exact Or.inr ⟨_, _, HO.out, ⟨rfl, rfl⟩, G9.out⟩
end ParX3
end Go.Proofs.YtfdpelokiljigaaDoor
/- Parse, Rule, Term and Terms of the code. Condition: the reserved words lie as laid. -/
namespace Go.Proofs.YtfdpelokiljigaaDoor
open Go Go.RowKit
namespace ParY
open Kit LexM TermM TermI TermU LexE LexF LexG LexP ParM ParA ParB ParC ParD ParK ParE ParF ParG ParH ParI ParW ParV ParX ParX2 ParX3
set_option maxRecDepth 100000 in
set_option maxHeartbeats 1600000 in
theorem parse_any (s : ByteArray) (w : World) (hw : Wd w) (hs : s.size ≤ 140737488355328) :
    Calls Tryd.prog 26 #[.string s] w (WdsR w (wholeF (descF 129 []) s.data.toList)) := by
  have H := Lib.hid (whole_ds s w hw hs)
  generalize wholeF (descF 129 []) s.data.toList = O at *
  unfold WdsR at H ⊢
  go_enter Tryd.func26, Tryd.ntmps26
  go_wp2_with fail
  refine H.out.mono ?_
  rintro e w4 (⟨l, p, c, hO, rfl, hS, hB⟩ | ⟨a, er, hO, rfl, hB⟩)
  · have HO := Lib.hid hO
    have S := Lib.hid hS
    have B := Lib.hid hB
    clear hO hS hB H
    go_wp2_with fail
    refine bodyPost_ret (v := .tuple #[.slice p l.length c, .int .i64 0, .int .i64 0]) (by simp [results, Tryd.results26, go_sem]) rfl (Or.inl ⟨l, p, c, HO.out, rfl, S.out, B.out⟩)
  · have HO := Lib.hid hO
    have B := Lib.hid hB
    clear hO hB H
    go_wp2_with fail
    refine bodyPost_ret (v := .tuple #[.slice none 0 0, .int .i64 a, .int .i64 er]) (by simp [results, Tryd.results26, go_sem]) rfl (Or.inr ⟨a, er, HO.out, rfl, B.out⟩)
set_option maxRecDepth 100000 in
set_option maxHeartbeats 1600000 in
theorem crule_any (s : ByteArray) (w : World) (hw : Wd w) (hs : s.size ≤ 140737488355328) :
    Calls Tryd.prog 28 #[.string s] w (WrR w (wholeF ruleF s.data.toList)) := by
  obtain ⟨W1, hW1⟩ : ∃ W1, W1 = w.alloc (.cells #[.string ⟨#[]⟩, .slice none 0 0, .slice none 0 0] 27) := ⟨_, rfl⟩
  have G1 : Below w.heap.size w W1 := by rw [hW1]; exact below_alloc w _
  have H1 : Hid (Has W1 w.heap.size #[.string ⟨#[]⟩, .slice none 0 0, .slice none 0 0]) := Lib.hid (by rw [hW1]; exact Has.new _ _ _)
  have hz : W1.heap.size = w.heap.size + 1 := by rw [hW1]; simp
  have H := Lib.hid (whole_rl s W1 (hw.below G1 hw.1) hs)
  have GG := Lib.hid G1
  clear G1
  generalize wholeF ruleF s.data.toList = O at *
  unfold WrR at H ⊢
  go_enter Tryd.func28, Tryd.ntmps28
  go_upto_region 1 with fail
  rw [← hW1]
  clear hW1
  go_wp2_with fail
  refine H.out.mono ?_
  rintro e w4 (⟨t, p, c, q, d, hO, rfl, hS, hB⟩ | ⟨a, er, hO, rfl, hB⟩)
  · have HO := Lib.hid hO
    have S := Lib.hid hS
    have B := Lib.hid (next0 GG.out hB)
    obtain ⟨x1, x2, x3, x4, x5, x6, x7⟩ := has3 (H1.out.step0 hB)
    have HH := Lib.hid (H1.out.step0 hB)
    clear hO hS hB H H1
    go_wp2_with fail
    have V := ((HH.out.set 0 (.string t.1.nm)).set 1 (.slice p t.1.args.length c)).set 2 (.slice q t.2.length d)
    obtain ⟨p1, p2, p3, p4, p5, p6, p7⟩ := has3 (a := .string t.1.nm) (b := .slice p t.1.args.length c) (c := .slice q t.2.length d) V
    refine bodyPost_ret (v := .tuple #[.agg #[.string t.1.nm, .slice p t.1.args.length c, .slice q t.2.length d], .int .i64 0, .int .i64 0]) (by simp [results, Tryd.results28, go_sem, p1, p2, p3]) rfl (Or.inl ⟨t, p, c, q, d, HO.out, rfl, ?_, ?_⟩)
    · refine KR.wide (KR.keep S.out (fun b o hk => ?_)) (fun b hb => ⟨by have := hb.1; omega, by rw [set_size, set_size, set_size]; exact hb.2⟩)
      have := hk.1
      exact (cell_set (by show b ≠ w.heap.size; omega) _).trans ((cell_set (by show b ≠ w.heap.size; omega) _).trans (cell_set (by show b ≠ w.heap.size; omega) _))
    · exact ((B.out.setCell (by show w.heap.size ≤ w.heap.size; omega) _).setCell (by show w.heap.size ≤ w.heap.size; omega) _).setCell (by show w.heap.size ≤ w.heap.size; omega) _
  · have HO := Lib.hid hO
    have B := Lib.hid (next0 GG.out hB)
    obtain ⟨x1, x2, x3, x4, x5, x6, x7⟩ := has3 (H1.out.step0 hB)
    have HH := Lib.hid (H1.out.step0 hB)
    clear hO hB H H1
    go_wp2_with fail
    have V := ((HH.out.set 0 (.string ⟨#[]⟩)).set 1 (.slice none 0 0)).set 2 (.slice none 0 0)
    obtain ⟨p1, p2, p3, p4, p5, p6, p7⟩ := has3 (a := .string ⟨#[]⟩) (b := .slice none 0 0) (c := .slice none 0 0) V
    refine bodyPost_ret (v := .tuple #[.agg #[.string ⟨#[]⟩, .slice none 0 0, .slice none 0 0], .int .i64 a, .int .i64 er]) (by simp [results, Tryd.results28, go_sem, p1, p2, p3]) rfl (Or.inr ⟨a, er, HO.out, rfl, ?_⟩)
    exact ((B.out.setCell (by show w.heap.size ≤ w.heap.size; omega) _).setCell (by show w.heap.size ≤ w.heap.size; omega) _).setCell (by show w.heap.size ≤ w.heap.size; omega) _
end ParY
end Go.Proofs.YtfdpelokiljigaaDoor
/- The code's Format. Condition: the reserved words and the three signs lie as laid; at most 2^47 bytes. -/
namespace Go.Proofs.YtfdpelokiljigaaDoor
open Go Go.RowKit
namespace PriN
open LexM TermM TermI Kit TermU ParM ParK ParV PriM PriK
/-- What Format leaves. -/
def FmR (w : World) (o : Out (List Rl)) (e : Ending) (w' : World) : Prop :=
  (∃ l, o = .good l [] ∧ e = .returned (.tuple #[.string (bs (rulesF l).1), .int .i64 0, .int .i64 (rulesF l).2]) ∧ Below w.heap.size w w') ∨
  (∃ a er, o = .bad a er ∧ e = .returned (.tuple #[.string ⟨#[]⟩, .int .i64 a, .int .i64 er]) ∧ Below w.heap.size w w')
set_option maxRecDepth 100000 in
set_option maxHeartbeats 3200000 in
theorem format_any (s : ByteArray) (w : World) (hw : LexE.Wd w) (hw2 : TermT.Wd w) (hs : s.size ≤ 140737488355328) :
    Calls Tryd.prog 24 #[.string s] w (FmR w (wholeF (descF 129 []) s.data.toList)) := by
  have H := Lib.hid (ParY.parse_any s w hw hs)
  have NZ := Lib.hid (fun a e (h : wholeF (descF 129 []) s.data.toList = .bad a e) => ParN.nz_whole (descF 129 []) (fun ts => ParN.nz_desc 129 [] ts rfl (by omega)) s.data.toList a e h)
  have RU := Lib.hid (fun (l : List Rl) (w2 : World) (hb : Below w.heap.size w w2) (v : Value) (h : RIn (fun b => w.heap.size ≤ b ∧ b < w2.heap.size) w2 l v) => rules_any l w2.heap.size w2 v (hw2.below hb hw2.1) (Nat.le_refl _) (h.wide (fun b hb => hb.2)))
  generalize wholeF (descF 129 []) s.data.toList = O at *
  unfold ParX2.WdsR at H
  unfold FmR
  clear hw hw2
  go_enter Tryd.func24, Tryd.ntmps24
  go_wp2_with fail
  refine H.out.mono ?_
  rintro e w2 (⟨l, p, c, hO, rfl, hR, hb⟩ | ⟨a, er, hO, rfl, hb⟩)
  · have K := Lib.hid (RU.out l w2 hb _ hR)
    have HO := Lib.hid hO
    have HBB := Lib.hid hb
    clear RU NZ hO hR hb H
    generalize l.length = n at *
    go_wp2_with fail
    refine K.out.mono ?_
    rintro e w3 ⟨rfl, k⟩
    have D3 := Lib.hid (HBB.out.trans (k.mono HBB.out.size))
    clear k
    go_wp2_with fail
    go_ret3
    exact Or.inl ⟨l, HO.out, rfl, D3.out⟩
  · have hne := NZ.out a er hO
    have HO := Lib.hid hO
    have HBB := Lib.hid hb
    clear RU NZ hO hb H
    have h0 : ¬ er = 0 := by omega
    have hb0 : (er != 0) = true := by simpa using h0
    go_wp2_with fail
    go_ret3
    exact Or.inr ⟨a, er, HO.out, rfl, HBB.out⟩
end PriN
end Go.Proofs.YtfdpelokiljigaaDoor
