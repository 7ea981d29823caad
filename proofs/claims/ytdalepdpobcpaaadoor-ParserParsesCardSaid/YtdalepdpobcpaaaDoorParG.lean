/- The reader's rule. No conditions but a reader in memory. -/
import Derived.Test.YtdalepdpobcpaaaDoorParF
namespace Go.Proofs.YtdalepdpobcpaaaDoor
open Go Go.RowKit
namespace ParG
open Kit LexM TermM TermI TermU LexP ParM ParA ParB ParC ParD ParK ParE ParF
/-- What the method that reads a rule leaves. -/
def RlR (r : Nat) (w : World) (o : Out Rl) (e : Ending) (w' : World) : Prop :=
  (∃ x ts p c q d, o = .good x ts ∧ e = .returned (.agg #[.string x.1.nm, .slice p x.1.args.length c, .slice q x.2.length d]) ∧ KR.inn (fun b => w.heap.size ≤ b ∧ b < w'.heap.size) w' (x, .slice p x.1.args.length c, .slice q x.2.length d) ∧ Rd w' r ts ∧ Ch r w w') ∨
  (∃ a er, o = .bad a er ∧ e = .panicked (PE a er) ∧ Ch r w w')
theorem has3 {w : World} {g : Nat} {a b c : Value} (h : Has w g #[a, b, c]) : w.cell? ⟨g, 0, none⟩ = some a ∧ w.cell? ⟨g, 1, none⟩ = some b ∧ w.cell? ⟨g, 2, none⟩ = some c ∧ w.frozen? ⟨g, 0, none⟩ = false ∧ w.frozen? ⟨g, 1, none⟩ = false ∧ w.frozen? ⟨g, 2, none⟩ = false ∧ g < w.heap.size :=
  ⟨h.cell 0, h.cell 1, h.cell 2, h.free 0, h.free 1, h.free 2, h.lt⟩
set_option maxRecDepth 100000 in
set_option maxHeartbeats 6400000 in
theorem rule_any (r : Nat) (w : World) (ts : List GTok) (h : Rd w r ts) :
    Calls Tryd.prog 33 #[.pointer (some ⟨r, 0, none⟩)] w (RlR r w (ruleF ts)) := by
  obtain ⟨W1, hW1⟩ : ∃ W1, W1 = w.alloc (.cells #[.string ⟨#[]⟩, .slice none 0 0, .slice none 0 0] 34) := ⟨_, rfl⟩
  have G1 : Below w.heap.size w W1 := by rw [hW1]; exact below_alloc w _
  have H1 : Hid (Has W1 w.heap.size #[.string ⟨#[]⟩, .slice none 0 0, .slice none 0 0]) := Lib.hid (by rw [hW1]; exact Has.new _ _ _)
  have hr := h.lt
  have hra : r ≠ w.heap.size := by omega
  have R1 := h.below G1
  have C1 := Lib.hid (Ch.of (r := r) G1)
  have HA := Lib.hid (atom_any r W1 ts R1)
  have HB := Lib.hid (fun w' tk (k : Rd w' r tk) => body_any r w' tk k)
  have HO : Hid (ruleF ts = (atomF ts).then fun h r => if isB (hd r) sIf = true then (bodyF r.tail).then fun b r2 => (expF sDot r2).then fun _ r3 => .good (h, b) r3 else (expF sDot r).then fun _ r3 => .good (h, []) r3) := Lib.hid rfl
  have EY := Lib.hid (fun w' tk (k : Rd w' r tk) (hb : isB (hd tk) sDot = true) => exp_yes w' r tk sDot k lit_ne.2.2.2.1 hb)
  have EN := Lib.hid (fun w' tk (k : Rd w' r tk) (hb : isB (hd tk) sDot = false) => exp_no w' r tk sDot k hb)
  generalize ruleF ts = O at *
  unfold TmR at HA
  unfold BdR at HB
  unfold RlR KR
  dsimp only
  clear h R1 G1
  go_enter Tryd.func33, Tryd.ntmps33
  go_upto_region 1 with fail
  rw [← hW1]
  clear hW1
  go_wp2_with fail
  refine HA.out.mono ?_
  rintro e w2 (⟨t, ts2, p, c, hO, rfl, hs, hn, hR, hC⟩ | ⟨a, er, hO, rfl, hC⟩)
  case inr =>
    have HO2 : Hid (O = .bad a er) := Lib.hid (HO.out.trans (then_bad hO))
    have C2 := Lib.hid (C1.out.trans hC)
    clear hO hC HA
    go_wp2_with fail
    exact ⟨rfl, Or.inr ⟨a, er, HO2.out, rfl, C2.out⟩⟩
  case inl =>
    have HO2 : Hid (O = if isB (hd ts2) sIf = true then (bodyF ts2.tail).then fun b r2 => (expF sDot r2).then fun _ r3 => .good (t, b) r3 else (expF sDot ts2).then fun _ r3 => .good (t, []) r3) := Lib.hid (HO.out.trans (then_good hO))
    have hz1 := H1.out.lt
    have H2 := Lib.hid ((hC.has H1.out (Ne.symm hra)).alloc (.cells #[.string t.nm, .slice p t.args.length c, .slice none 0 0] 34))
    have T2 : Hid (Has (w2.alloc (.cells #[.string t.nm, .slice p t.args.length c, .slice none 0 0] 34)) w2.heap.size #[.string t.nm, .slice p t.args.length c, .slice none 0 0]) := Lib.hid (Has.new _ _ _)
    have hz2 : w.heap.size < w2.heap.size := Nat.lt_of_lt_of_le hz1 hC.size
    have C2 := Lib.hid ((C1.out.trans hC).alloc (.cells #[.string t.nm, .slice p t.args.length c, .slice none 0 0] 34))
    have R2 := Lib.hid (hR.alloc (.cells #[.string t.nm, .slice p t.args.length c, .slice none 0 0] 34))
    have S2 : Hid (SlIn (fun b => w.heap.size < b ∧ b < w2.heap.size) (w2.alloc (.cells #[.string t.nm, .slice p t.args.length c, .slice none 0 0] 34)) t.args (.slice p t.args.length c)) := Lib.hid ((hs.frame (fun b o hk => (below_alloc w2 _).cell (p := ⟨b, o, none⟩) hk.2)).weaken (fun b hb => ⟨by have := hb.1; omega, hb.2⟩))
    have N2 := Lib.hid hn
    obtain ⟨WX, hWX⟩ : ∃ WX, WX = w2.alloc (.cells #[.string t.nm, .slice p t.args.length c, .slice none 0 0] 34) := ⟨_, rfl⟩
    have hzx : WX.heap.size = w2.heap.size + 1 := by rw [hWX]; simp
    rw [← hWX] at H2 T2 C2 R2 S2
    have HZX := Lib.hid hzx
    clear hO hC HA hs hn hR HO H1 C1 hzx
    cases hb : isB (hd ts2) sIf with
    | false =>
      have HN := Lib.hid (acc_no WX r ts2 sIf R2.out hb)
      have HO3 : Hid (O = (expF sDot ts2).then fun _ r3 => .good (t, []) r3) := Lib.hid (by rw [HO2.out, hb]; rfl)
      clear hb HO2 HB
      go_upto_region 2 with fail
      rw [← hWX]
      clear hWX
      go_wp2_with fail
      refine HN.out.mono ?_
      rintro e w3 ⟨rfl, k⟩
      have H3 := Lib.hid (H2.out.step0 k)
      have T3 := Lib.hid (T2.out.step0 k)
      have R3 := Lib.hid (R2.out.below k)
      have C3 := Lib.hid (C2.out.below k)
      have hzk := k.size
      have S3 := Lib.hid (S2.out.frame (fun b o hk => k.cell (p := ⟨b, o, none⟩) (by show b < WX.heap.size; have := HZX.out; have := hk.2; omega)))
      clear k HN H2 T2 R2 C2 S2
      cases hd2 : isB (hd ts2) sDot with
      | false =>
        have HE := Lib.hid (EN.out w3 ts2 R3.out hd2)
        have HO4 : Hid (O = .bad (hd ts2).2.2 1) := Lib.hid (by rw [HO3.out]; unfold expF; rw [hd2]; rfl)
        clear hd2 HO3 EY EN
        go_wp2_with fail
        refine HE.out.mono ?_
        rintro e w4 ⟨rfl, k⟩
        have C5 := Lib.hid (C3.out.trans k)
        clear k
        go_wp2_with fail
        exact ⟨rfl, Or.inr ⟨_, _, HO4.out, rfl, C5.out⟩⟩
      | true =>
        have HE := Lib.hid (EY.out w3 ts2 R3.out hd2)
        have HO4 : Hid (O = .good (t, []) ts2.tail) := Lib.hid (by rw [HO3.out]; unfold expF; rw [hd2]; rfl)
        clear hd2 HO3 EY EN
        go_wp2_with fail
        refine HE.out.mono ?_
        rintro e w4 ⟨rfl, k1, k2⟩
        have R4 := Lib.hid k1
        have C4 := Lib.hid (C3.out.trans k2)
        have hz4 := k2.size
        obtain ⟨x0, x1, x2, f0, f1, f2, x5⟩ := has3 (k2.has H3.out (Ne.symm hra))
        obtain ⟨y0, y1, y2, g0, g1, g2, y5⟩ := has3 (k2.has T3.out (by omega))
        have S4 := Lib.hid ((S3.out.frame (fun b o hk => k2.cell (by have := HZX.out; have := hk.2; omega) (by have := hk.1; omega))))
        have Z4 := Lib.hid hz4
        have ZK := Lib.hid hzk
        clear k1 k2 HE H3 T3 R3 S3 C3 hz4 hzk
        go_wp2_with fail
        refine bodyPost_ret (v := .agg #[.string t.nm, .slice p t.args.length c, .slice none 0 0]) (by simp [results, Tryd.results33, go_sem, x0, x1, x2]) rfl (Or.inl ⟨(t, []), _, p, c, none, 0, HO4.out, rfl, ⟨?_, N2.out, LIn.nil _ _⟩, ?_, ?_⟩)
        · refine (S4.out.frame (fun b o hk => ?_)).weaken (fun b hb => ⟨by have := hb.1; omega, by rw [set_size, set_size, set_size]; have := hb.2; have := HZX.out; have := Z4.out; have := ZK.out; omega⟩)
          have := hk.1
          exact (cell_set (by show b ≠ w.heap.size; omega) _).trans ((cell_set (by show b ≠ w.heap.size; omega) _).trans (cell_set (by show b ≠ w.heap.size; omega) _))
        · exact ((R4.out.far (by exact hr) _).far (by exact hr) _).far (by exact hr) _
        · exact ((C4.out.put (Or.inr (by exact Nat.le_refl _)) _).put (Or.inr (by exact Nat.le_refl _)) _).put (Or.inr (by exact Nat.le_refl _)) _
    | true =>
      have HN := Lib.hid (acc_yes WX r ts2 sIf R2.out lit_ne.2.2.2.2.1 hb)
      have HO3 : Hid (O = (bodyF ts2.tail).then fun b r2 => (expF sDot r2).then fun _ r3 => .good (t, b) r3) := Lib.hid (by rw [HO2.out, hb]; rfl)
      clear hb HO2
      generalize ts2.tail = tk at *
      go_upto_region 2 with fail
      rw [← hWX]
      clear hWX
      go_wp2_with fail
      refine HN.out.mono ?_
      rintro e w3 ⟨rfl, k1, k2⟩
      have HB2 := Lib.hid (HB.out w3 tk k1)
      have H3 := Lib.hid (k2.has H2.out (Ne.symm hra))
      have T3 := Lib.hid (k2.has T2.out (by omega))
      have C3 := Lib.hid (C2.out.trans k2)
      have hz3 := k2.size
      have hz3' := Lib.hid hz3
      have S3 := Lib.hid (S2.out.frame (fun b o hk => k2.cell (by have := HZX.out; have := hk.2; omega) (by have := hk.1; omega)))
      clear k1 k2 HN HB H2 T2 R2 C2 S2
      go_wp2_with fail
      refine HB2.out.mono ?_
      rintro e w4 (⟨l, ts4, q, d, hO, rfl, hs, hR, hC⟩ | ⟨a, er, hO, rfl, hC⟩)
      case inr =>
        have HO4 : Hid (O = .bad a er) := Lib.hid (HO3.out.trans (then_bad hO))
        have C4 := Lib.hid (C3.out.trans hC)
        clear hO hC HB2
        go_wp2_with fail
        exact ⟨rfl, Or.inr ⟨a, er, HO4.out, rfl, C4.out⟩⟩
      case inl =>
        have HO4 : Hid (O = (expF sDot ts4).then fun _ r3 => .good (t, l) r3) := Lib.hid (HO3.out.trans (then_good hO))
        have C4 := Lib.hid (C3.out.trans hC)
        have H4 := Lib.hid (hC.has H3.out (Ne.symm hra))
        have T4 := Lib.hid (hC.has T3.out (by omega))
        have R4 := Lib.hid hR
        have hz4 := hC.size
        have S4 := Lib.hid (S3.out.frame (fun b o hk => hC.cell (by have := HZX.out; have := hk.2; omega) (by have := hk.1; omega)))
        have L4 := Lib.hid (hs.wide (ok' := fun b => w2.heap.size < b ∧ b < w4.heap.size) (fun b hb => ⟨by have := hb.1; have := HZX.out; omega, hb.2⟩))
        obtain ⟨y0, y1, y2, g0, g1, g2, y5⟩ := has3 T4.out
        obtain ⟨x0, x1, x2, f0, f1, f2, x5⟩ := has3 H4.out
        have hz2' : w.heap.size ≠ w2.heap.size := by omega
        have hz2'' : w2.heap.size ≠ w.heap.size := by omega
        clear hO hC HB2 hs hR H3 T3 S3 C3 HO3
        -- the world behind the store
        have RQ := Lib.hid (R4.out.far (p := ⟨w2.heap.size, 2, none⟩) (by show r < w2.heap.size; omega) (.slice q l.length d))
        have CQ := Lib.hid (C4.out.put (p := ⟨w2.heap.size, 2, none⟩) (Or.inr (by show w.heap.size ≤ w2.heap.size; omega)) (.slice q l.length d))
        have HQ := Lib.hid (H4.out.far (p := ⟨w2.heap.size, 2, none⟩) (by show w.heap.size ≠ w2.heap.size; omega) (.slice q l.length d))
        have TQ := Lib.hid (T4.out.set 2 (.slice q l.length d))
        have SQ := Lib.hid (S4.out.frame (w' := w4.setCell ⟨w2.heap.size, 2, none⟩ (.slice q l.length d)) (fun b o hk => cell_set (by show b ≠ w2.heap.size; have := hk.2; omega) _))
        have LQ := Lib.hid (L4.out.keep (w' := w4.setCell ⟨w2.heap.size, 2, none⟩ (.slice q l.length d)) (fun b o hk => cell_set (by show b ≠ w2.heap.size; have := hk.1; omega) _))
        have ZQ : Hid ((w4.setCell ⟨w2.heap.size, 2, none⟩ (.slice q l.length d)).heap.size = w4.heap.size) := Lib.hid (set_size _ _ _)
        have Z4 := Lib.hid hz4
        clear H4 T4 R4 S4 L4 C4 hz4 hz3
        go_upto_region 4 with fail
        generalize w4.setCell ⟨w2.heap.size, 2, none⟩ (.slice q l.length d) = wq at *
        clear x0 x1 x2 f0 f1 f2 x5 y0 y1 y2 g0 g1 g2 y5
        cases hd2 : isB (hd ts4) sDot with
        | false =>
          have HE := Lib.hid (EN.out wq ts4 RQ.out hd2)
          have HO5 : Hid (O = .bad (hd ts4).2.2 1) := Lib.hid (by rw [HO4.out]; unfold expF; rw [hd2]; rfl)
          clear hd2 HO4 EY EN
          go_wp2_with fail
          refine HE.out.mono ?_
          rintro e w5 ⟨rfl, k⟩
          have C5 := Lib.hid (CQ.out.trans k)
          clear k
          go_wp2_with fail
          exact ⟨rfl, Or.inr ⟨_, _, HO5.out, rfl, C5.out⟩⟩
        | true =>
          have HE := Lib.hid (EY.out wq ts4 RQ.out hd2)
          have HO5 : Hid (O = .good (t, l) ts4.tail) := Lib.hid (by rw [HO4.out]; unfold expF; rw [hd2]; rfl)
          clear hd2 HO4 EY EN
          go_wp2_with fail
          refine HE.out.mono ?_
          rintro e w5 ⟨rfl, k1, k2⟩
          have R5 := Lib.hid k1
          have C5 := Lib.hid (CQ.out.trans k2)
          have hz5 := k2.size
          obtain ⟨x0, x1, x2, f0, f1, f2, x5⟩ := has3 (k2.has HQ.out (Ne.symm hra))
          obtain ⟨y0, y1, y2, g0, g1, g2, y5⟩ := has3 (a := .string t.nm) (b := .slice p t.args.length c) (c := .slice q l.length d) (k2.has TQ.out (by omega))
          have Z5 : Hid (w4.heap.size ≤ w5.heap.size) := Lib.hid (by have := ZQ.out; omega)
          have S5 := Lib.hid (SQ.out.frame (fun b o hk => k2.cell (by have := HZX.out; have := hk.2; have := ZQ.out; have := Z4.out; have := hz3'.out; omega) (by have := hk.1; omega)))
          have L5 := Lib.hid (LQ.out.keep (fun b o hk => k2.cell (by have := hk.2; have := ZQ.out; omega) (by have := hk.1; omega)))
          clear k1 k2 HE HQ TQ RQ SQ LQ CQ hz5
          go_wp2_with fail
          refine bodyPost_ret (v := .agg #[.string t.nm, .slice p t.args.length c, .slice q l.length d]) (by simp [results, Tryd.results33, go_sem, x0, x1, x2]) rfl (Or.inl ⟨(t, l), _, p, c, q, d, HO5.out, rfl, ⟨?_, N2.out, ?_⟩, ?_, ?_⟩)
          · refine (S5.out.frame (fun b o hk => ?_)).weaken (fun b hb => ⟨by have := hb.1; omega, by rw [set_size, set_size, set_size]; have := hb.2; have := HZX.out; have := Z4.out; have := hz3'.out; have := Z5.out; omega⟩)
            have := hk.1
            exact (cell_set (by show b ≠ w.heap.size; omega) _).trans ((cell_set (by show b ≠ w.heap.size; omega) _).trans (cell_set (by show b ≠ w.heap.size; omega) _))
          · refine (L5.out.keep (fun b o hk => ?_)).wide (fun b hb => ⟨by have := hb.1; omega, by rw [set_size, set_size, set_size]; have := hb.2; have := Z5.out; omega⟩)
            have := hk.1
            exact (cell_set (by show b ≠ w.heap.size; omega) _).trans ((cell_set (by show b ≠ w.heap.size; omega) _).trans (cell_set (by show b ≠ w.heap.size; omega) _))
          · exact ((R5.out.far (by exact hr) _).far (by exact hr) _).far (by exact hr) _
          · exact ((C5.out.put (Or.inr (by exact Nat.le_refl _)) _).put (Or.inr (by exact Nat.le_refl _)) _).put (Or.inr (by exact Nat.le_refl _)) _
end ParG
end Go.Proofs.YtdalepdpobcpaaaDoor
