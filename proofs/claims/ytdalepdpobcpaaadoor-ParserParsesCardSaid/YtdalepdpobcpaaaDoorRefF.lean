/- The reference's reader: literal. No conditions but a reader in memory. -/
import Derived.Test.YtdalepdpobcpaaaDoorRefE
import Derived.Test.YtdalepdpobcpaaaDoorParG
namespace Go.Proofs.YtdalepdpobcpaaaDoor
open Go Go.RowKit
namespace RefF
open Kit LexM TermM TermI TermU LexE LexF LexG LexP LexQ ParM ParA ParB ParC ParD ParK ParE ParG ParV ParN RefA RefB RefC0 RefC RefD
def LtO (r : Nat) (w : World) (o : Out Lt) (e : Ending) (w' : World) : Prop :=
  (∃ x ts p c, o = .good x ts ∧ e = .returned (.agg #[.bool x.1, .string x.2.nm, .slice p x.2.args.length c]) ∧ SlIn (fun b => w.heap.size ≤ b ∧ b < w'.heap.size) w' x.2.args (.slice p x.2.args.length c) ∧ x.2.nm.size ≤ maxLen ∧ RR w' r ts 0 0 ∧ Ch r w w') ∨
  (∃ a er b nm p m c ts, o = .bad a er ∧ e = .returned (.agg #[.bool b, .string nm, .slice p m c]) ∧ RR w' r ts a er ∧ er ≠ 0 ∧ Ch r w w')
set_option maxRecDepth 100000 in
set_option maxHeartbeats 3200000 in
theorem literal_ok (r : Nat) (w : World) (ts : List GTok) (h : RR w r ts 0 0) :
    Calls Tryd.prog 51 #[.pointer (some ⟨r, 0, none⟩)] w (LtO r w (litF ts)) := by
  obtain ⟨W1, hW1⟩ : ∃ W1, W1 = w.alloc (.cells #[.bool false, .string ⟨#[]⟩, .slice none 0 0] 46) := ⟨_, rfl⟩
  have G1 : Below w.heap.size w W1 := by rw [hW1]; exact below_alloc w _
  have H1 : Hid (Has W1 w.heap.size #[.bool false, .string ⟨#[]⟩, .slice none 0 0]) := Lib.hid (by rw [hW1]; exact Has.new _ _ _)
  have hr := h.lt
  have R1 := h.below G1
  have C1 := Lib.hid (Ch.of (r := r) G1)
  have HRR := Lib.hid R1
  have hneZ : w.heap.size ≠ r := by omega
  have HS1 : Hid (W1.heap.size = w.heap.size + 1) := Lib.hid (by rw [hW1]; simp)
  have HW1 := Lib.hid hW1
  cases hb : isB (hd ts) sNot with
  | false =>
    have HO : Hid (litF ts = (atomF ts).then fun t r => .good (false, t) r) := Lib.hid (by unfold litF; rw [if_neg (by rw [hb]; decide)])
    have I1 := Lib.hid (is_no W1 r ts 0 sNot R1 hb)
    generalize litF ts = O at *
    clear R1 G1 h hb
    unfold LtO
    go_enter Tryd.func51, Tryd.ntmps51
    go_upto_region 1 with fail
    rw [← hW1]
    clear hW1
    go_wp2_with fail
    refine I1.out.mono ?_
    rintro e w2 ⟨rfl, k⟩
    have CX := Lib.hid (C1.out.below k)
    have ZX := Lib.hid (H1.out.step0 k)
    have HSX := Lib.hid k.size
    have AT := Lib.hid (RefE.atom_ok r w2 ts (HRR.out.below k))
    clear k I1 HRR
    unfold TmO at AT
    generalize atomF ts = OA at *
    go_wp2_with fail
    refine AT.out.mono ?_
    rintro e w5 (⟨t, ts5, p, c, hO, rfl, hS, hn, hR, hC⟩ | ⟨a, er, nm, p, m, c, ts5, hO, rfl, hR, her, hC⟩)
    · have R5 := Lib.hid hR
      have S5 := Lib.hid hS
      have N5 := Lib.hid hn
      have OO : Hid (O = .good (false, t) ts5) := Lib.hid (by rw [HO.out, hO]; rfl)
      have C5 := Lib.hid (CX.out.trans hC)
      have hsz := Lib.hid CX.out.size
      obtain ⟨q1, q2, q3, q4, q5, q6, q7⟩ := has3 (hC.has ZX.out hneZ)
      clear hR hS hn hO hC AT
      go_wp2_with fail
      refine bodyPost_ret (v := .agg #[.bool false, .string t.nm, .slice p t.args.length c]) (by simp [results, Tryd.results51, go_sem, q1, q2, q3]) rfl (Or.inl ⟨(false, t), ts5, p, c, OO.out, rfl, ?_, N5.out, ?_, ?_⟩)
      · refine (S5.out.frame (fun b o hk => ?_)).weaken (fun b hb => ?_)
        · have hk1 : w2.heap.size ≤ b := hk.1
          have h1 := HS1.out
          have h2 := HSX.out
          exact (cell_set (by show b ≠ w.heap.size; omega) _).trans ((cell_set (by show b ≠ w.heap.size; omega) _).trans (cell_set (by show b ≠ w.heap.size; omega) _))
        · have hb1 : w2.heap.size ≤ b := hb.1
          have h1 := HS1.out
          have h2 := HSX.out
          exact ⟨by omega, by rw [set_size, set_size, set_size]; exact hb.2⟩
      · exact RR.far (RR.far (RR.far R5.out (by exact hr) _) (by exact hr) _) (by exact hr) _
      · exact ((C5.out.put (Or.inr (by exact Nat.le_refl _)) _).put (Or.inr (by exact Nat.le_refl _)) _).put (Or.inr (by exact Nat.le_refl _)) _
    · have R5 := Lib.hid hR
      have E5 := Lib.hid her
      have OO : Hid (O = .bad a er) := Lib.hid (by rw [HO.out, hO]; rfl)
      have C5 := Lib.hid (CX.out.trans hC)
      obtain ⟨q1, q2, q3, q4, q5, q6, q7⟩ := has3 (hC.has ZX.out hneZ)
      clear hR her hO hC AT
      go_wp2_with fail
      refine bodyPost_ret (v := .agg #[.bool false, .string nm, .slice p m c]) (by simp [results, Tryd.results51, go_sem, q1, q2, q3]) rfl (Or.inr ⟨a, er, false, nm, p, m, c, ts5, OO.out, rfl, ?_, E5.out, ?_⟩)
      · exact RR.far (RR.far (RR.far R5.out (by exact hr) _) (by exact hr) _) (by exact hr) _
      · exact ((C5.out.put (Or.inr (by exact Nat.le_refl _)) _).put (Or.inr (by exact Nat.le_refl _)) _).put (Or.inr (by exact Nat.le_refl _)) _
  | true =>
    have HO : Hid (litF ts = (atomF ts.tail).then fun t r => .good (true, t) r) := Lib.hid (by unfold litF; rw [if_pos hb])
    have I1 := Lib.hid (is_yes W1 r ts 0 sNot (Or.inr (Or.inr (Or.inr (Or.inr (Or.inr (Or.inr rfl)))))) R1 hb)
    have NE := Lib.hid (isB_ne hb lit_ne.2.2.2.2.2.2)
    generalize litF ts = O at *
    clear R1 G1 h hb
    unfold LtO
    go_enter Tryd.func51, Tryd.ntmps51
    go_upto_region 1 with fail
    rw [← hW1]
    clear hW1
    go_wp2_with fail
    refine I1.out.mono ?_
    rintro e w2 ⟨rfl, k⟩
    have R2 := Lib.hid (HRR.out.below k)
    have C2 := Lib.hid (C1.out.below k)
    have Z2 := Lib.hid (H1.out.step0 k)
    have HS2 := Lib.hid k.size
    clear k I1 HRR
    obtain ⟨g, o, c, n, i, i1, i2, i3, i4, i5, x1, x2, x3, x4, f1, f2, f3, _⟩ := R2.out.open
    have hi1 : (i : Int) < 20000 := by omega
    have hi0 : 0 ≤ (i : Int) := by omega
    have RX := Lib.hid (R2.out.pass (Or.inr NE.out) x2)
    have CX := Lib.hid (C2.out.put (p := ⟨r, 1, none⟩) (Or.inl rfl) (.int .i64 ((i : Int) + 1)))
    have ZX := Lib.hid (Z2.out.far (p := ⟨r, 1, none⟩) hneZ (.int .i64 ((i : Int) + 1)))
    have HSX : Hid (W1.heap.size ≤ (w2.setCell ⟨r, 1, none⟩ (.int .i64 ((i : Int) + 1))).heap.size) := Lib.hid (by rw [set_size]; exact HS2.out)
    clear R2 C2 Z2 HS2
    go_upto_region 4 with fail
    generalize w2.setCell ⟨r, 1, none⟩ (.int .i64 ((i : Int) + 1)) = w3 at *
    clear i1 i2 i3 i4 i5 hi1 hi0 x1 x2 x3 x4 f1 f2 f3
    have AT := Lib.hid (RefE.atom_ok r w3 ts.tail RX.out)
    unfold TmO at AT
    generalize atomF ts.tail = OA at *
    go_wp2_with fail
    refine AT.out.mono ?_
    rintro e w5 (⟨t, ts5, p, c, hO, rfl, hS, hn, hR, hC⟩ | ⟨a, er, nm, p, m, c, ts5, hO, rfl, hR, her, hC⟩)
    · have R5 := Lib.hid hR
      have S5 := Lib.hid hS
      have N5 := Lib.hid hn
      have OO : Hid (O = .good (true, t) ts5) := Lib.hid (by rw [HO.out, hO]; rfl)
      have C5 := Lib.hid (CX.out.trans hC)
      have hsz := Lib.hid CX.out.size
      obtain ⟨q1, q2, q3, q4, q5, q6, q7⟩ := has3 (hC.has ZX.out hneZ)
      clear hR hS hn hO hC AT
      go_wp2_with fail
      refine bodyPost_ret (v := .agg #[.bool true, .string t.nm, .slice p t.args.length c]) (by simp [results, Tryd.results51, go_sem, q1, q2, q3]) rfl (Or.inl ⟨(true, t), ts5, p, c, OO.out, rfl, ?_, N5.out, ?_, ?_⟩)
      · refine (S5.out.frame (fun b o hk => ?_)).weaken (fun b hb => ?_)
        · have hk1 : w3.heap.size ≤ b := hk.1
          have h1 := HS1.out
          have h2 := HSX.out
          exact (cell_set (by show b ≠ w.heap.size; omega) _).trans ((cell_set (by show b ≠ w.heap.size; omega) _).trans (cell_set (by show b ≠ w.heap.size; omega) _))
        · have hb1 : w3.heap.size ≤ b := hb.1
          have h1 := HS1.out
          have h2 := HSX.out
          exact ⟨by omega, by rw [set_size, set_size, set_size]; exact hb.2⟩
      · exact RR.far (RR.far (RR.far R5.out (by exact hr) _) (by exact hr) _) (by exact hr) _
      · exact ((C5.out.put (Or.inr (by exact Nat.le_refl _)) _).put (Or.inr (by exact Nat.le_refl _)) _).put (Or.inr (by exact Nat.le_refl _)) _
    · have R5 := Lib.hid hR
      have E5 := Lib.hid her
      have OO : Hid (O = .bad a er) := Lib.hid (by rw [HO.out, hO]; rfl)
      have C5 := Lib.hid (CX.out.trans hC)
      obtain ⟨q1, q2, q3, q4, q5, q6, q7⟩ := has3 (hC.has ZX.out hneZ)
      clear hR her hO hC AT
      go_wp2_with fail
      refine bodyPost_ret (v := .agg #[.bool true, .string nm, .slice p m c]) (by simp [results, Tryd.results51, go_sem, q1, q2, q3]) rfl (Or.inr ⟨a, er, true, nm, p, m, c, ts5, OO.out, rfl, ?_, E5.out, ?_⟩)
      · exact RR.far (RR.far (RR.far R5.out (by exact hr) _) (by exact hr) _) (by exact hr) _
      · exact ((C5.out.put (Or.inr (by exact Nat.le_refl _)) _).put (Or.inr (by exact Nat.le_refl _)) _).put (Or.inr (by exact Nat.le_refl _)) _
set_option maxRecDepth 100000 in
set_option maxHeartbeats 3200000 in
theorem literal_err (r : Nat) (w : World) (ts : List GTok) (a er : Int) (her : er ≠ 0) (h : RR w r ts a er) :
    Calls Tryd.prog 51 #[.pointer (some ⟨r, 0, none⟩)] w fun e w' => e = .returned (.agg #[.bool false, .string ⟨#[]⟩, .slice none 0 0]) ∧ Below w.heap.size w w' := by
  obtain ⟨W1, hW1⟩ : ∃ W1, W1 = w.alloc (.cells #[.bool false, .string ⟨#[]⟩, .slice none 0 0] 46) := ⟨_, rfl⟩
  have G1 : Below w.heap.size w W1 := by rw [hW1]; exact below_alloc w _
  have H1 : Hid (Has W1 w.heap.size #[.bool false, .string ⟨#[]⟩, .slice none 0 0]) := Lib.hid (by rw [hW1]; exact Has.new _ _ _)
  have R1 := h.below G1
  have GG := Lib.hid G1
  have HW1 := Lib.hid hW1
  have I1 := Lib.hid (is_err W1 r ts a er sNot R1 her)
  have AT := Lib.hid (fun w2 (k : Below W1.heap.size W1 w2) => RefE.atom_err r w2 ts a er her (R1.below k))
  clear R1 G1 h her
  go_enter Tryd.func51, Tryd.ntmps51
  go_upto_region 1 with fail
  rw [← hW1]
  clear hW1
  go_wp2_with fail
  refine I1.out.mono ?_
  rintro e w2 ⟨rfl, k⟩
  have A2 := Lib.hid (AT.out w2 k)
  have C2 := Lib.hid (next0 GG.out k)
  have Z2 := Lib.hid (H1.out.step0 k)
  clear k AT I1
  go_wp2_with fail
  refine A2.out.mono ?_
  rintro e w3 ⟨rfl, k⟩
  have C3 := Lib.hid (next0 C2.out k)
  obtain ⟨q1, q2, q3, q4, q5, q6, q7⟩ := has3 (Z2.out.step0 k)
  clear k A2
  go_wp2_with fail
  refine bodyPost_ret (v := .agg #[.bool false, .string ⟨#[]⟩, .slice none 0 0]) (by simp [results, Tryd.results51, go_sem, q1, q2, q3]) rfl ⟨rfl, ?_⟩
  exact ((C3.out.setCell (by exact Nat.le_refl _) _).setCell (by exact Nat.le_refl _) _).setCell (by exact Nat.le_refl _) _
end RefF
end Go.Proofs.YtdalepdpobcpaaaDoor
