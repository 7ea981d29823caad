/- whole for the lists (rules, terms); by genparx.py. Condition: the reserved words lie as laid. -/
import Derived.Test.YtdalepdpobcpaaaDoorParX
namespace Go.Proofs.YtdalepdpobcpaaaDoor
open Go Go.RowKit
namespace ParX2
open Kit LexM TermM TermI TermU LexE LexF LexG LexP ParM ParA ParB ParC ParD ParK ParE ParF ParG ParH ParI ParW ParV ParX
/-- What whole leaves, of a list. -/
def WdsR (w : World) (o : Out (List Rl)) (e : Ending) (w' : World) : Prop :=
  (∃ l p c, o = .good l [] ∧ e = .returned (.tuple #[.slice p l.length c, .int .i64 0, .int .i64 0]) ∧ RIn (fun b => w.heap.size ≤ b ∧ b < w'.heap.size) w' l (.slice p l.length c) ∧ Below w.heap.size w w') ∨
  (∃ a er, o = .bad a er ∧ e = .returned (.tuple #[.slice none 0 0, .int .i64 a, .int .i64 er]) ∧ Below w.heap.size w w')
set_option maxRecDepth 100000 in
set_option maxHeartbeats 6400000 in
theorem whole_ds (s : ByteArray) (w : World) (hw : Wd w) (hs : s.size ≤ 140737488355328) :
    Calls Tryd.prog 27 #[.string s, .func (.func 28) #[] #[]] w (WdsR w (wholeF (descF 129 []) s.data.toList)) := by
  have hmf : ∀ (fn : Fn) (first cap : Array Value) (w : World), (Instr.makeFunc fn first cap).run Tryd.prog w = .ok (.func fn first cap) w := fun _ _ _ _ => rfl
  obtain ⟨W1, hW1⟩ : ∃ W1, W1 = (w.alloc (.cells #[.int .i64 0] 3)).alloc (.cells #[.int .i64 0] 24) := ⟨_, rfl⟩
  have G1 : Below w.heap.size w W1 := by rw [hW1]; exact (below_alloc w _).alloc (by simp) _
  have HA : Has W1 w.heap.size #[.int .i64 0] := by rw [hW1]; exact (Has.new w _ _).alloc _
  have HE : Has W1 (w.heap.size + 1) #[.int .i64 0] := by rw [hW1]; exact Has.new1 w _ _ _
  have hz : W1.heap.size = w.heap.size + 2 := by rw [hW1]; simp
  have HL := lex_any s W1 (hw.below G1 hw.1) hs
  have LE := fun h => lexR_end (l := s.data.toList) h
  by_cases h0 : (lexR s.data.toList).2.2 = 0
  · have HO : Hid (wholeF (descF 129 []) s.data.toList = (descF 129 [] ((lexR s.data.toList).1.map gt)).then fun x r => if (hd r).1 = 0 then .good x [] else .bad (hd r).2.2 1) := Lib.hid (by unfold wholeF; rw [if_pos h0])
    have HL2 := Lib.hid (lexed_ok2 HL h0)
    obtain ⟨e1, e2, e3⟩ := LE h0
    generalize wholeF (descF 129 []) s.data.toList = O at *
    have hlen : (lexR s.data.toList).1.length = ((lexR s.data.toList).1.map gt).length := by simp
    have HLN := Lib.hid hlen
    generalize lexR s.data.toList = R at *
    have L1 := Lib.hid e1
    have L2 := Lib.hid e2
    have L3 := Lib.hid e3
    have GA := Lib.hid HA
    have GE := Lib.hid HE
    have GG := Lib.hid G1
    have HZ := Lib.hid hz
    clear HL LE h0 HA HE G1 hz e1 e2 e3 hlen
    unfold WdsR
    go_enter_defers Tryd.func27, Tryd.ntmps27
    go_upto_region 1 with fail
    rw [← hW1]
    clear hW1
    go_wp2_with fail
    refine HL2.out.mono ?_
    rintro e w2 ⟨g, cap, rfl, k1, k2, k3, k4, k⟩
    have A2 := Lib.hid (GA.out.step0 k)
    have E2 := Lib.hid (GE.out.step0 k)
    have G2 := Lib.hid (next0 GG.out k)
    have hgz : w.heap.size + 2 ≤ g := by have := HZ.out; omega
    have T2 := Lib.hid k3
    clear k HL2 GA GE GG k3 k4
    have y1 := A2.out.cell 0
    have y2 := A2.out.free 0
    have y3 := A2.out.lt
    have z1 := E2.out.cell 0
    have z2 := E2.out.free 0
    have z3 := E2.out.lt
    simp only [List.getElem?_toArray, List.getElem?_cons_zero] at y1 z1
    go_upto_region 2 with fail
    obtain ⟨W5, hW5⟩ : ∃ W5, W5 = (w2.setCell ⟨w.heap.size, 0, none⟩ (.int .i64 0)).setCell ⟨w.heap.size + 1, 0, none⟩ (.int .i64 0) := ⟨_, rfl⟩
    have A5 : Has W5 w.heap.size #[.int .i64 0] := by rw [hW5]; exact (A2.out.set 0 _).far (by show w.heap.size ≠ w.heap.size + 1; omega) _
    have E5 : Has W5 (w.heap.size + 1) #[.int .i64 0] := by rw [hW5]; exact (E2.out.far (by show w.heap.size + 1 ≠ w.heap.size; omega) _).set 0 _
    have G5 := Lib.hid (show Below w.heap.size w W5 by rw [hW5]; exact (G2.out.setCell (by show w.heap.size ≤ w.heap.size; omega) _).setCell (by show w.heap.size ≤ w.heap.size + 1; omega) _)
    have T5 : Toks W5 g 0 (R.1.map gt) := by
      have hc : ∀ off, W5.cell? ⟨g, off, none⟩ = w2.cell? ⟨g, off, none⟩ := fun off => by
        rw [hW5]
        exact (cell_set (by show g ≠ w.heap.size + 1; omega) _).trans (cell_set (by show g ≠ w.heap.size; omega) _)
      refine ⟨by rw [hW5, set_size, set_size]; exact T2.out.1, fun i t hi => ?_⟩
      rw [hc, hc, hc]
      exact T2.out.2 i t hi
    rw [← hW5]
    clear hW5 A2 E2 G2 y1 y2 y3 z1 z2 z3 T2
    have z1 := E5.cell 0
    have z2 := E5.free 0
    have z3 := E5.lt
    simp only [List.getElem?_toArray, List.getElem?_cons_zero] at z1
    have A6 := Lib.hid A5
    have E6 := Lib.hid E5
    have hgl := T5.1
    have T6 := Lib.hid T5
    clear A5 E5 T5
    go_upto_region 6 with fail
    rw [HLN.out]
    rw [HLN.out] at k1
    clear HLN
    generalize R.1.map gt = ts at *
    clear R
    obtain ⟨W6, hW6⟩ : ∃ W6, W6 = W5.alloc (.cells #[.slice (some ⟨g, 0, none⟩) ts.length cap] 78) := ⟨_, rfl⟩
    have B6 : Below W5.heap.size W5 W6 := by rw [hW6]; exact below_alloc W5 _
    have R6 : Rd W6 W5.heap.size ts := ⟨L1.out, L2.out, g, 0, cap, by rw [hW6]; exact Has.new _ _ _, k1, k2, hgl, T6.out.below B6 hgl⟩
    have A7 := Lib.hid (A6.out.step0 B6)
    have E7 := Lib.hid (E6.out.step0 B6)
    have G7 := Lib.hid (next0 G5.out B6)
    have hz6 : W5.heap.size < W6.heap.size := by rw [hW6]; simp
    have hr : w.heap.size + 2 ≤ W5.heap.size := by omega
    rw [← hW6]
    have HT := Lib.hid (desc_any _ W6 ts R6)
    clear hW6 B6 A6 E6 G5 z1 z2 z3 L1 L2 L3 T6 k1 k2 R6
    generalize W5.heap.size = r at *
    generalize descF 129 [] ts = OT at *
    unfold DsR at HT
    go_wp2_with fail
    refine HT.out.mono ?_
    rintro e w7 (⟨l', ts7, p, c, hO, rfl, hs, hR, hC⟩ | ⟨a, er, hO, rfl, hC⟩)
    case inr =>
      have HO3 : Hid (O = .bad a er) := Lib.hid (by rw [HO.out, hO]; rfl)
      have A8 := hC.has A7.out (by omega)
      have E8 := hC.has E7.out (by omega)
      have G8 : Below w.heap.size w w7 := G7.out.trans (hC.toBelow (by omega) (by omega))
      go_wp2_with fail
      refine leaves_cons (f := 45) (args := #[.pointer (some ⟨w.heap.size, 0, none⟩), .pointer (some ⟨w.heap.size + 1, 0, none⟩)]) (by simp) (by simp [go_sem]) ?_
      refine (catch_ds w.heap.size (w.heap.size + 1) _ _ (a) (er) w7 (by omega) A8 E8).mono ?_
      rintro e u' wz ⟨rfl, rfl, A9, E9, k9⟩
      have G9 := Lib.hid (G8.trans (k9.toBelow (B := w.heap.size) (by omega) (by omega) G8.size))
      have q1 := A9.cell 0
      have r1 := E9.cell 0
      simp only [List.getElem?_toArray, List.getElem?_cons_zero] at q1 r1
      show ∃ v, (results _ _).run _ wz = .ok v wz ∧ _
      exact ⟨.tuple #[.slice none 0 0, .int .i64 (a), .int .i64 (er)], by simp [results, Tryd.results27, go_sem, q1, r1], Or.inr ⟨_, _, HO3.out, rfl, G9.out⟩⟩
    case inl =>
      have A10 := hC.has A7.out (by omega)
      have E10 := hC.has E7.out (by omega)
      have G10 : Below w.heap.size w w7 := G7.out.trans (hC.toBelow (by omega) (by omega))
      have HN := Lib.hid (next_any w7 r ts7 hR)
      have HR8 := Lib.hid hR
      have hq : r < w7.heap.size := hR.lt
      have S10 := Lib.hid hs
      have HO3 : Hid (O = if (hd ts7).1 = 0 then .good l' [] else .bad (hd ts7).2.2 1) := Lib.hid (by rw [HO.out, hO]; rfl)
      clear HT HO hO hs hR hC A7 E7 G7
      have F0 := fld0
      go_wp2_with fail
      refine HN.out.mono ?_
      rintro e w9 ⟨rfl, k9⟩
      have A11 := A10.step0 k9
      have E11 := E10.step0 k9
      have G11 := next0 G10 k9
      have HR9 := Lib.hid (HR8.out.below k9)
      have S11 := Lib.hid (S10.out.keep (w' := w9) (fun b o hb => k9.cell (p := ⟨b, o, none⟩) (by show b < w7.heap.size; exact hb.2)))
      have hz9 := k9.size
      clear k9 A10 E10 G10 HR8 S10 HN
      by_cases ht : (hd ts7).1 = 0
      · have HO4 : Hid (O = .good l' []) := Lib.hid (by rw [HO3.out, if_pos ht])
        have hb : ((hd ts7).1 != 0) = false := by simpa using ht
        have HF := Lib.hid (fail_no w9 r 1)
        clear HO3 ht HR9
        generalize hd ts7 = tk at *
        have AA := Lib.hid A11
        have EE := Lib.hid E11
        have GG := Lib.hid G11
        clear A11 E11 G11
        go_wp2_with fail
        refine HF.out.mono ?_
        rintro e wf ⟨rfl, rfl⟩
        have y1 := AA.out.cell 0
        have y2 := AA.out.free 0
        have y3 := AA.out.lt
        have z1 := EE.out.cell 0
        have z2 := EE.out.free 0
        have z3 := EE.out.lt
        simp only [List.getElem?_toArray, List.getElem?_cons_zero] at y1 z1
        go_wp2_with fail
        obtain ⟨W13, hW13⟩ : ∃ W13, W13 = (w9.setCell ⟨w.heap.size, 0, none⟩ (.int .i64 0)).setCell ⟨w.heap.size + 1, 0, none⟩ (.int .i64 0) := ⟨_, rfl⟩
        have A13 : Has W13 w.heap.size #[.int .i64 0] := by rw [hW13]; exact (AA.out.set 0 _).far (by show w.heap.size ≠ w.heap.size + 1; omega) _
        have E13 : Has W13 (w.heap.size + 1) #[.int .i64 0] := by rw [hW13]; exact (EE.out.far (by show w.heap.size + 1 ≠ w.heap.size; omega) _).set 0 _
        have G13 : Below w.heap.size w W13 := by rw [hW13]; exact (GG.out.setCell (by show w.heap.size ≤ w.heap.size; omega) _).setCell (by show w.heap.size ≤ w.heap.size + 1; omega) _
        have hz13 : W13.heap.size = w9.heap.size := by rw [hW13, set_size, set_size]
        have S13 := S11.out.keep (w' := W13) (fun b o hb => by
          have h1 : W6.heap.size ≤ b := hb.1
          rw [hW13]
          exact (cell_set (by show b ≠ w.heap.size + 1; omega) _).trans (cell_set (by show b ≠ w.heap.size; omega) _))
        rw [← hW13]
        clear hW13 y1 y2 y3 z1 z2 z3
        refine leaves_cons (f := 45) (args := #[.pointer (some ⟨w.heap.size, 0, none⟩), .pointer (some ⟨w.heap.size + 1, 0, none⟩)]) (by simp) (by simp [go_sem]) ?_
        refine (idle_ds w.heap.size (w.heap.size + 1) W13).mono ?_
        rintro e u' wz ⟨rfl, rfl, k9⟩
        have q1 := (A13.step0 k9).cell 0
        have r1 := (E13.step0 k9).cell 0
        simp only [List.getElem?_toArray, List.getElem?_cons_zero] at q1 r1
        show ∃ v, (results _ _).run _ wz = .ok v wz ∧ _
        refine ⟨.tuple #[.slice p l'.length c, .int .i64 0, .int .i64 0], by simp [results, Tryd.results27, go_sem, q1, r1], Or.inl ⟨l', p, c, HO4.out, rfl, ?_, next0 G13 k9⟩⟩
        refine (S13.keep (w' := wz) (fun b o hb => k9.cell (p := ⟨b, o, none⟩) (by show b < W13.heap.size; have : b < w7.heap.size := hb.2; omega))).wide (fun b hb => ?_)
        have h1 : W6.heap.size ≤ b := hb.1
        have h2 : b < w7.heap.size := hb.2
        have h3 := k9.size
        exact ⟨by omega, by omega⟩
      · have HO4 : Hid (O = .bad (hd ts7).2.2 1) := Lib.hid (by rw [HO3.out, if_neg ht])
        have hb : ((hd ts7).1 != 0) = true := by simpa using ht
        have HF := Lib.hid (fail_yes w9 r 1 ts7 HR9.out)
        clear HO3 ht HR9
        generalize hd ts7 = tk at *
        have AA := Lib.hid A11
        have EE := Lib.hid E11
        have GG := Lib.hid G11
        clear A11 E11 G11
        go_wp2_with fail
        refine HF.out.mono ?_
        rintro e wf ⟨rfl, kf⟩
        have A12 := AA.out.step0 kf
        have E12 := EE.out.step0 kf
        have G12 := next0 GG.out kf
        clear kf HF
        go_wp2_with fail
        refine leaves_cons (f := 45) (args := #[.pointer (some ⟨w.heap.size, 0, none⟩), .pointer (some ⟨w.heap.size + 1, 0, none⟩)]) (by simp) (by simp [go_sem]) ?_
        refine (catch_ds w.heap.size (w.heap.size + 1) _ _ (tk.2.2) (1) wf (by omega) A12 E12).mono ?_
        rintro e u' wz ⟨rfl, rfl, A9, E9, k9⟩
        have G9 := Lib.hid (G12.trans (k9.toBelow (B := w.heap.size) (by omega) (by omega) G12.size))
        have q1 := A9.cell 0
        have r1 := E9.cell 0
        simp only [List.getElem?_toArray, List.getElem?_cons_zero] at q1 r1
        show ∃ v, (results _ _).run _ wz = .ok v wz ∧ _
        exact ⟨.tuple #[.slice none 0 0, .int .i64 (tk.2.2), .int .i64 (1)], by simp [results, Tryd.results27, go_sem, q1, r1], Or.inr ⟨_, _, HO4.out, rfl, G9.out⟩⟩
  · have HO : Hid (wholeF (descF 129 []) s.data.toList = .bad (lexR s.data.toList).2.1 (lexR s.data.toList).2.2) := Lib.hid (by unfold wholeF; rw [if_neg h0])
    have HL2 := Lib.hid (lexed_err HL h0)
    generalize wholeF (descF 129 []) s.data.toList = O at *
    have hb0 : ((lexR s.data.toList).2.2 != 0) = true := by simpa using h0
    generalize lexR s.data.toList = R at *
    have GA := Lib.hid HA
    have GE := Lib.hid HE
    have GG := Lib.hid G1
    have HZ := Lib.hid hz
    clear HL LE h0 HA HE G1 hz
    unfold WdsR
    go_enter_defers Tryd.func27, Tryd.ntmps27
    go_upto_region 1 with fail
    rw [← hW1]
    clear hW1
    go_wp2_with fail
    refine HL2.out.mono ?_
    rintro e w2 ⟨rfl, k⟩
    have A2 := Lib.hid (GA.out.step0 k)
    have E2 := Lib.hid (GE.out.step0 k)
    have G2 := Lib.hid (next0 GG.out k)
    clear k HL2 GA GE GG
    have y1 := A2.out.cell 0
    have y2 := A2.out.free 0
    have y3 := A2.out.lt
    have z1 := E2.out.cell 0
    have z2 := E2.out.free 0
    have z3 := E2.out.lt
    simp only [List.getElem?_toArray, List.getElem?_cons_zero] at y1 z1
    go_upto_region 2 with fail
    obtain ⟨W5, hW5⟩ : ∃ W5, W5 = (w2.setCell ⟨w.heap.size, 0, none⟩ (.int .i64 R.2.1)).setCell ⟨w.heap.size + 1, 0, none⟩ (.int .i64 R.2.2) := ⟨_, rfl⟩
    have A5 : Has W5 w.heap.size #[.int .i64 R.2.1] := by rw [hW5]; exact (A2.out.set 0 _).far (by show w.heap.size ≠ w.heap.size + 1; omega) _
    have E5 : Has W5 (w.heap.size + 1) #[.int .i64 R.2.2] := by rw [hW5]; exact (E2.out.far (by show w.heap.size + 1 ≠ w.heap.size; omega) _).set 0 _
    have G5 := Lib.hid (show Below w.heap.size w W5 by rw [hW5]; exact (G2.out.setCell (by show w.heap.size ≤ w.heap.size; omega) _).setCell (by show w.heap.size ≤ w.heap.size + 1; omega) _)
    rw [← hW5]
    clear hW5 A2 E2 G2 y1 y2 y3 z1 z2 z3
    have y1 := A5.cell 0
    have y2 := A5.free 0
    have y3 := A5.lt
    have z1 := E5.cell 0
    have z2 := E5.free 0
    have z3 := E5.lt
    simp only [List.getElem?_toArray, List.getElem?_cons_zero] at y1 z1
    have A6 := Lib.hid A5
    have E6 := Lib.hid E5
    clear A5 E5
    go_upto_region 3 with fail
    go_region
    go_wp2_with fail
    obtain ⟨W9, hW9⟩ : ∃ W9, W9 = ((W5.setCell ⟨w.heap.size, 0, none⟩ (.int .i64 R.2.1)).setCell ⟨w.heap.size + 1, 0, none⟩ (.int .i64 R.2.2)).drew := ⟨_, rfl⟩
    have A9 : Has W9 w.heap.size #[.int .i64 R.2.1] := by rw [hW9]; exact ((A6.out.set 0 _).far (by show w.heap.size ≠ w.heap.size + 1; omega) _).drew
    have E9 : Has W9 (w.heap.size + 1) #[.int .i64 R.2.2] := by rw [hW9]; exact ((E6.out.far (by show w.heap.size + 1 ≠ w.heap.size; omega) _).set 0 _).drew
    have G9 := Lib.hid (show Below w.heap.size w W9 by rw [hW9]; exact ((G5.out.setCell (by show w.heap.size ≤ w.heap.size; omega) _).setCell (by show w.heap.size ≤ w.heap.size + 1; omega) _).drew)
    rw [← hW9]
    clear hW9
    have q1 := A9.cell 0
    have r1 := E9.cell 0
    simp only [List.getElem?_toArray, List.getElem?_cons_zero] at q1 r1
    show ∃ v, (results _ _).run _ W9 = .ok v W9 ∧ _
    exact ⟨.tuple #[.slice none 0 0, .int .i64 R.2.1, .int .i64 R.2.2], by simp [results, Tryd.results27, go_sem, q1, r1], Or.inr ⟨_, _, HO.out, rfl, G9.out⟩⟩
/-- What whole leaves, of a list. -/
def WtsR (w : World) (o : Out (List Tm)) (e : Ending) (w' : World) : Prop :=
  (∃ l p c, o = .good l [] ∧ e = .returned (.tuple #[.slice p l.length c, .int .i64 0, .int .i64 0]) ∧ SlIn (fun b => w.heap.size ≤ b ∧ b < w'.heap.size) w' l (.slice p l.length c) ∧ Below w.heap.size w w') ∨
  (∃ a er, o = .bad a er ∧ e = .returned (.tuple #[.slice none 0 0, .int .i64 a, .int .i64 er]) ∧ Below w.heap.size w w')
set_option maxRecDepth 100000 in
set_option maxHeartbeats 6400000 in
theorem whole_ts (s : ByteArray) (w : World) (hw : Wd w) (hs : s.size ≤ 140737488355328) :
    Calls Tryd.prog 39 #[.string s, .func (.func 40) #[] #[]] w (WtsR w (wholeF (termsF) s.data.toList)) := by
  have hmf : ∀ (fn : Fn) (first cap : Array Value) (w : World), (Instr.makeFunc fn first cap).run Tryd.prog w = .ok (.func fn first cap) w := fun _ _ _ _ => rfl
  obtain ⟨W1, hW1⟩ : ∃ W1, W1 = (w.alloc (.cells #[.int .i64 0] 3)).alloc (.cells #[.int .i64 0] 24) := ⟨_, rfl⟩
  have G1 : Below w.heap.size w W1 := by rw [hW1]; exact (below_alloc w _).alloc (by simp) _
  have HA : Has W1 w.heap.size #[.int .i64 0] := by rw [hW1]; exact (Has.new w _ _).alloc _
  have HE : Has W1 (w.heap.size + 1) #[.int .i64 0] := by rw [hW1]; exact Has.new1 w _ _ _
  have hz : W1.heap.size = w.heap.size + 2 := by rw [hW1]; simp
  have HL := lex_any s W1 (hw.below G1 hw.1) hs
  have LE := fun h => lexR_end (l := s.data.toList) h
  by_cases h0 : (lexR s.data.toList).2.2 = 0
  · have HO : Hid (wholeF (termsF) s.data.toList = (termsF ((lexR s.data.toList).1.map gt)).then fun x r => if (hd r).1 = 0 then .good x [] else .bad (hd r).2.2 1) := Lib.hid (by unfold wholeF; rw [if_pos h0])
    have HL2 := Lib.hid (lexed_ok2 HL h0)
    obtain ⟨e1, e2, e3⟩ := LE h0
    generalize wholeF (termsF) s.data.toList = O at *
    have hlen : (lexR s.data.toList).1.length = ((lexR s.data.toList).1.map gt).length := by simp
    have HLN := Lib.hid hlen
    generalize lexR s.data.toList = R at *
    have L1 := Lib.hid e1
    have L2 := Lib.hid e2
    have L3 := Lib.hid e3
    have GA := Lib.hid HA
    have GE := Lib.hid HE
    have GG := Lib.hid G1
    have HZ := Lib.hid hz
    clear HL LE h0 HA HE G1 hz e1 e2 e3 hlen
    unfold WtsR
    go_enter_defers Tryd.func39, Tryd.ntmps39
    go_upto_region 1 with fail
    rw [← hW1]
    clear hW1
    go_wp2_with fail
    refine HL2.out.mono ?_
    rintro e w2 ⟨g, cap, rfl, k1, k2, k3, k4, k⟩
    have A2 := Lib.hid (GA.out.step0 k)
    have E2 := Lib.hid (GE.out.step0 k)
    have G2 := Lib.hid (next0 GG.out k)
    have hgz : w.heap.size + 2 ≤ g := by have := HZ.out; omega
    have T2 := Lib.hid k3
    clear k HL2 GA GE GG k3 k4
    have y1 := A2.out.cell 0
    have y2 := A2.out.free 0
    have y3 := A2.out.lt
    have z1 := E2.out.cell 0
    have z2 := E2.out.free 0
    have z3 := E2.out.lt
    simp only [List.getElem?_toArray, List.getElem?_cons_zero] at y1 z1
    go_upto_region 2 with fail
    obtain ⟨W5, hW5⟩ : ∃ W5, W5 = (w2.setCell ⟨w.heap.size, 0, none⟩ (.int .i64 0)).setCell ⟨w.heap.size + 1, 0, none⟩ (.int .i64 0) := ⟨_, rfl⟩
    have A5 : Has W5 w.heap.size #[.int .i64 0] := by rw [hW5]; exact (A2.out.set 0 _).far (by show w.heap.size ≠ w.heap.size + 1; omega) _
    have E5 : Has W5 (w.heap.size + 1) #[.int .i64 0] := by rw [hW5]; exact (E2.out.far (by show w.heap.size + 1 ≠ w.heap.size; omega) _).set 0 _
    have G5 := Lib.hid (show Below w.heap.size w W5 by rw [hW5]; exact (G2.out.setCell (by show w.heap.size ≤ w.heap.size; omega) _).setCell (by show w.heap.size ≤ w.heap.size + 1; omega) _)
    have T5 : Toks W5 g 0 (R.1.map gt) := by
      have hc : ∀ off, W5.cell? ⟨g, off, none⟩ = w2.cell? ⟨g, off, none⟩ := fun off => by
        rw [hW5]
        exact (cell_set (by show g ≠ w.heap.size + 1; omega) _).trans (cell_set (by show g ≠ w.heap.size; omega) _)
      refine ⟨by rw [hW5, set_size, set_size]; exact T2.out.1, fun i t hi => ?_⟩
      rw [hc, hc, hc]
      exact T2.out.2 i t hi
    rw [← hW5]
    clear hW5 A2 E2 G2 y1 y2 y3 z1 z2 z3 T2
    have z1 := E5.cell 0
    have z2 := E5.free 0
    have z3 := E5.lt
    simp only [List.getElem?_toArray, List.getElem?_cons_zero] at z1
    have A6 := Lib.hid A5
    have E6 := Lib.hid E5
    have hgl := T5.1
    have T6 := Lib.hid T5
    clear A5 E5 T5
    go_upto_region 6 with fail
    rw [HLN.out]
    rw [HLN.out] at k1
    clear HLN
    generalize R.1.map gt = ts at *
    clear R
    obtain ⟨W6, hW6⟩ : ∃ W6, W6 = W5.alloc (.cells #[.slice (some ⟨g, 0, none⟩) ts.length cap] 78) := ⟨_, rfl⟩
    have B6 : Below W5.heap.size W5 W6 := by rw [hW6]; exact below_alloc W5 _
    have R6 : Rd W6 W5.heap.size ts := ⟨L1.out, L2.out, g, 0, cap, by rw [hW6]; exact Has.new _ _ _, k1, k2, hgl, T6.out.below B6 hgl⟩
    have A7 := Lib.hid (A6.out.step0 B6)
    have E7 := Lib.hid (E6.out.step0 B6)
    have G7 := Lib.hid (next0 G5.out B6)
    have hz6 : W5.heap.size < W6.heap.size := by rw [hW6]; simp
    have hr : w.heap.size + 2 ≤ W5.heap.size := by omega
    rw [← hW6]
    have HT := Lib.hid (terms_any _ W6 ts R6 L3.out)
    clear hW6 B6 A6 E6 G5 z1 z2 z3 L1 L2 L3 T6 k1 k2 R6
    generalize W5.heap.size = r at *
    generalize termsF ts = OT at *
    unfold TsR at HT
    go_wp2_with fail
    refine HT.out.mono ?_
    rintro e w7 (⟨l', ts7, p, c, hO, rfl, hs, hR, hC⟩ | ⟨a, er, hO, rfl, hC⟩)
    case inr =>
      have HO3 : Hid (O = .bad a er) := Lib.hid (by rw [HO.out, hO]; rfl)
      have A8 := hC.has A7.out (by omega)
      have E8 := hC.has E7.out (by omega)
      have G8 : Below w.heap.size w w7 := G7.out.trans (hC.toBelow (by omega) (by omega))
      go_wp2_with fail
      refine leaves_cons (f := 64) (args := #[.pointer (some ⟨w.heap.size, 0, none⟩), .pointer (some ⟨w.heap.size + 1, 0, none⟩)]) (by simp) (by simp [go_sem]) ?_
      refine (catch_ts w.heap.size (w.heap.size + 1) _ _ (a) (er) w7 (by omega) A8 E8).mono ?_
      rintro e u' wz ⟨rfl, rfl, A9, E9, k9⟩
      have G9 := Lib.hid (G8.trans (k9.toBelow (B := w.heap.size) (by omega) (by omega) G8.size))
      have q1 := A9.cell 0
      have r1 := E9.cell 0
      simp only [List.getElem?_toArray, List.getElem?_cons_zero] at q1 r1
      show ∃ v, (results _ _).run _ wz = .ok v wz ∧ _
      exact ⟨.tuple #[.slice none 0 0, .int .i64 (a), .int .i64 (er)], by simp [results, Tryd.results39, go_sem, q1, r1], Or.inr ⟨_, _, HO3.out, rfl, G9.out⟩⟩
    case inl =>
      have A10 := hC.has A7.out (by omega)
      have E10 := hC.has E7.out (by omega)
      have G10 : Below w.heap.size w w7 := G7.out.trans (hC.toBelow (by omega) (by omega))
      have HN := Lib.hid (next_any w7 r ts7 hR)
      have HR8 := Lib.hid hR
      have hq : r < w7.heap.size := hR.lt
      have S10 := Lib.hid hs
      have HO3 : Hid (O = if (hd ts7).1 = 0 then .good l' [] else .bad (hd ts7).2.2 1) := Lib.hid (by rw [HO.out, hO]; rfl)
      clear HT HO hO hs hR hC A7 E7 G7
      have F0 := fld0
      go_wp2_with fail
      refine HN.out.mono ?_
      rintro e w9 ⟨rfl, k9⟩
      have A11 := A10.step0 k9
      have E11 := E10.step0 k9
      have G11 := next0 G10 k9
      have HR9 := Lib.hid (HR8.out.below k9)
      have S11 := Lib.hid (S10.out.frame (w' := w9) (fun b o hb => k9.cell (p := ⟨b, o, none⟩) (by show b < w7.heap.size; exact hb.2)))
      have hz9 := k9.size
      clear k9 A10 E10 G10 HR8 S10 HN
      by_cases ht : (hd ts7).1 = 0
      · have HO4 : Hid (O = .good l' []) := Lib.hid (by rw [HO3.out, if_pos ht])
        have hb : ((hd ts7).1 != 0) = false := by simpa using ht
        have HF := Lib.hid (fail_no w9 r 1)
        clear HO3 ht HR9
        generalize hd ts7 = tk at *
        have AA := Lib.hid A11
        have EE := Lib.hid E11
        have GG := Lib.hid G11
        clear A11 E11 G11
        go_wp2_with fail
        refine HF.out.mono ?_
        rintro e wf ⟨rfl, rfl⟩
        have y1 := AA.out.cell 0
        have y2 := AA.out.free 0
        have y3 := AA.out.lt
        have z1 := EE.out.cell 0
        have z2 := EE.out.free 0
        have z3 := EE.out.lt
        simp only [List.getElem?_toArray, List.getElem?_cons_zero] at y1 z1
        go_wp2_with fail
        obtain ⟨W13, hW13⟩ : ∃ W13, W13 = (w9.setCell ⟨w.heap.size, 0, none⟩ (.int .i64 0)).setCell ⟨w.heap.size + 1, 0, none⟩ (.int .i64 0) := ⟨_, rfl⟩
        have A13 : Has W13 w.heap.size #[.int .i64 0] := by rw [hW13]; exact (AA.out.set 0 _).far (by show w.heap.size ≠ w.heap.size + 1; omega) _
        have E13 : Has W13 (w.heap.size + 1) #[.int .i64 0] := by rw [hW13]; exact (EE.out.far (by show w.heap.size + 1 ≠ w.heap.size; omega) _).set 0 _
        have G13 : Below w.heap.size w W13 := by rw [hW13]; exact (GG.out.setCell (by show w.heap.size ≤ w.heap.size; omega) _).setCell (by show w.heap.size ≤ w.heap.size + 1; omega) _
        have hz13 : W13.heap.size = w9.heap.size := by rw [hW13, set_size, set_size]
        have S13 := S11.out.frame (w' := W13) (fun b o hb => by
          have h1 : W6.heap.size ≤ b := hb.1
          rw [hW13]
          exact (cell_set (by show b ≠ w.heap.size + 1; omega) _).trans (cell_set (by show b ≠ w.heap.size; omega) _))
        rw [← hW13]
        clear hW13 y1 y2 y3 z1 z2 z3
        refine leaves_cons (f := 64) (args := #[.pointer (some ⟨w.heap.size, 0, none⟩), .pointer (some ⟨w.heap.size + 1, 0, none⟩)]) (by simp) (by simp [go_sem]) ?_
        refine (idle_ts w.heap.size (w.heap.size + 1) W13).mono ?_
        rintro e u' wz ⟨rfl, rfl, k9⟩
        have q1 := (A13.step0 k9).cell 0
        have r1 := (E13.step0 k9).cell 0
        simp only [List.getElem?_toArray, List.getElem?_cons_zero] at q1 r1
        show ∃ v, (results _ _).run _ wz = .ok v wz ∧ _
        refine ⟨.tuple #[.slice p l'.length c, .int .i64 0, .int .i64 0], by simp [results, Tryd.results39, go_sem, q1, r1], Or.inl ⟨l', p, c, HO4.out, rfl, ?_, next0 G13 k9⟩⟩
        refine (S13.frame (w' := wz) (fun b o hb => k9.cell (p := ⟨b, o, none⟩) (by show b < W13.heap.size; have : b < w7.heap.size := hb.2; omega))).weaken (fun b hb => ?_)
        have h1 : W6.heap.size ≤ b := hb.1
        have h2 : b < w7.heap.size := hb.2
        have h3 := k9.size
        exact ⟨by omega, by omega⟩
      · have HO4 : Hid (O = .bad (hd ts7).2.2 1) := Lib.hid (by rw [HO3.out, if_neg ht])
        have hb : ((hd ts7).1 != 0) = true := by simpa using ht
        have HF := Lib.hid (fail_yes w9 r 1 ts7 HR9.out)
        clear HO3 ht HR9
        generalize hd ts7 = tk at *
        have AA := Lib.hid A11
        have EE := Lib.hid E11
        have GG := Lib.hid G11
        clear A11 E11 G11
        go_wp2_with fail
        refine HF.out.mono ?_
        rintro e wf ⟨rfl, kf⟩
        have A12 := AA.out.step0 kf
        have E12 := EE.out.step0 kf
        have G12 := next0 GG.out kf
        clear kf HF
        go_wp2_with fail
        refine leaves_cons (f := 64) (args := #[.pointer (some ⟨w.heap.size, 0, none⟩), .pointer (some ⟨w.heap.size + 1, 0, none⟩)]) (by simp) (by simp [go_sem]) ?_
        refine (catch_ts w.heap.size (w.heap.size + 1) _ _ (tk.2.2) (1) wf (by omega) A12 E12).mono ?_
        rintro e u' wz ⟨rfl, rfl, A9, E9, k9⟩
        have G9 := Lib.hid (G12.trans (k9.toBelow (B := w.heap.size) (by omega) (by omega) G12.size))
        have q1 := A9.cell 0
        have r1 := E9.cell 0
        simp only [List.getElem?_toArray, List.getElem?_cons_zero] at q1 r1
        show ∃ v, (results _ _).run _ wz = .ok v wz ∧ _
        exact ⟨.tuple #[.slice none 0 0, .int .i64 (tk.2.2), .int .i64 (1)], by simp [results, Tryd.results39, go_sem, q1, r1], Or.inr ⟨_, _, HO4.out, rfl, G9.out⟩⟩
  · have HO : Hid (wholeF (termsF) s.data.toList = .bad (lexR s.data.toList).2.1 (lexR s.data.toList).2.2) := Lib.hid (by unfold wholeF; rw [if_neg h0])
    have HL2 := Lib.hid (lexed_err HL h0)
    generalize wholeF (termsF) s.data.toList = O at *
    have hb0 : ((lexR s.data.toList).2.2 != 0) = true := by simpa using h0
    generalize lexR s.data.toList = R at *
    have GA := Lib.hid HA
    have GE := Lib.hid HE
    have GG := Lib.hid G1
    have HZ := Lib.hid hz
    clear HL LE h0 HA HE G1 hz
    unfold WtsR
    go_enter_defers Tryd.func39, Tryd.ntmps39
    go_upto_region 1 with fail
    rw [← hW1]
    clear hW1
    go_wp2_with fail
    refine HL2.out.mono ?_
    rintro e w2 ⟨rfl, k⟩
    have A2 := Lib.hid (GA.out.step0 k)
    have E2 := Lib.hid (GE.out.step0 k)
    have G2 := Lib.hid (next0 GG.out k)
    clear k HL2 GA GE GG
    have y1 := A2.out.cell 0
    have y2 := A2.out.free 0
    have y3 := A2.out.lt
    have z1 := E2.out.cell 0
    have z2 := E2.out.free 0
    have z3 := E2.out.lt
    simp only [List.getElem?_toArray, List.getElem?_cons_zero] at y1 z1
    go_upto_region 2 with fail
    obtain ⟨W5, hW5⟩ : ∃ W5, W5 = (w2.setCell ⟨w.heap.size, 0, none⟩ (.int .i64 R.2.1)).setCell ⟨w.heap.size + 1, 0, none⟩ (.int .i64 R.2.2) := ⟨_, rfl⟩
    have A5 : Has W5 w.heap.size #[.int .i64 R.2.1] := by rw [hW5]; exact (A2.out.set 0 _).far (by show w.heap.size ≠ w.heap.size + 1; omega) _
    have E5 : Has W5 (w.heap.size + 1) #[.int .i64 R.2.2] := by rw [hW5]; exact (E2.out.far (by show w.heap.size + 1 ≠ w.heap.size; omega) _).set 0 _
    have G5 := Lib.hid (show Below w.heap.size w W5 by rw [hW5]; exact (G2.out.setCell (by show w.heap.size ≤ w.heap.size; omega) _).setCell (by show w.heap.size ≤ w.heap.size + 1; omega) _)
    rw [← hW5]
    clear hW5 A2 E2 G2 y1 y2 y3 z1 z2 z3
    have y1 := A5.cell 0
    have y2 := A5.free 0
    have y3 := A5.lt
    have z1 := E5.cell 0
    have z2 := E5.free 0
    have z3 := E5.lt
    simp only [List.getElem?_toArray, List.getElem?_cons_zero] at y1 z1
    have A6 := Lib.hid A5
    have E6 := Lib.hid E5
    clear A5 E5
    go_upto_region 3 with fail
    go_region
    go_wp2_with fail
    obtain ⟨W9, hW9⟩ : ∃ W9, W9 = ((W5.setCell ⟨w.heap.size, 0, none⟩ (.int .i64 R.2.1)).setCell ⟨w.heap.size + 1, 0, none⟩ (.int .i64 R.2.2)).drew := ⟨_, rfl⟩
    have A9 : Has W9 w.heap.size #[.int .i64 R.2.1] := by rw [hW9]; exact ((A6.out.set 0 _).far (by show w.heap.size ≠ w.heap.size + 1; omega) _).drew
    have E9 : Has W9 (w.heap.size + 1) #[.int .i64 R.2.2] := by rw [hW9]; exact ((E6.out.far (by show w.heap.size + 1 ≠ w.heap.size; omega) _).set 0 _).drew
    have G9 := Lib.hid (show Below w.heap.size w W9 by rw [hW9]; exact ((G5.out.setCell (by show w.heap.size ≤ w.heap.size; omega) _).setCell (by show w.heap.size ≤ w.heap.size + 1; omega) _).drew)
    rw [← hW9]
    clear hW9
    have q1 := A9.cell 0
    have r1 := E9.cell 0
    simp only [List.getElem?_toArray, List.getElem?_cons_zero] at q1 r1
    show ∃ v, (results _ _).run _ W9 = .ok v W9 ∧ _
    exact ⟨.tuple #[.slice none 0 0, .int .i64 R.2.1, .int .i64 R.2.2], by simp [results, Tryd.results39, go_sem, q1, r1], Or.inr ⟨_, _, HO.out, rfl, G9.out⟩⟩
end ParX2
end Go.Proofs.YtdalepdpobcpaaaDoor
