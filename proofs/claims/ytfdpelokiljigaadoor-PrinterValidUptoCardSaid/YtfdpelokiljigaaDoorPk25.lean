/- Texts laid together: RefD; RefE; LexR; RefG. Their own heads stand before each. -/
import Derived.Test.YtfdpelokiljigaaDoorPk24
import Derived.Test.YtfdpelokiljigaaDoorPk9
import Derived.Deep.QuietTactic
import Derived.BigQuiet
import Derived.Test.YtfdpelokiljigaaDoorPk3
import Derived.Test.YtfdpelokiljigaaDoorPk18
import Derived.StillTailTactics
/- The reference's reader: term, atom, literal. No conditions but a reader in memory. -/
namespace Go.Proofs.YtfdpelokiljigaaDoor
open Go Go.RowKit
namespace RefD
open Kit LexM TermM TermI TermU LexE LexF LexG LexP LexQ ParM ParA ParB ParC ParD ParV ParN RefA RefB RefC0 RefC
theorem f_bad (d : Nat) (ts : List GTok) (h : begB (hd ts) = false) : ∃ a er, termF d ts = .bad a er ∧ er ≠ 0 := by
  cases d <;> (rw [termF, if_pos h]; exact ⟨_, _, rfl, by decide⟩)
set_option maxRecDepth 100000 in
set_option maxHeartbeats 3200000 in
theorem tm_step (d : Nat) (L : Int) (hL : L = 5 - (d : Int)) (hd4 : d ≤ 4) (r : Nat)
    (IH : ∀ d', d = d' + 1 → ∀ (w : World) (ts : List GTok), RR w r ts 0 0 → Calls Tryd.prog 117 #[.pointer (some ⟨r, 0, none⟩), .int .i64 (L + 1)] w (TmO r w (termF d' ts)))
    (w : World) (ts : List GTok) (h : RR w r ts 0 0) :
    Calls Tryd.prog 117 #[.pointer (some ⟨r, 0, none⟩), .int .i64 L] w (TmO r w (termF d ts)) := by
  obtain ⟨W1, hW1⟩ : ∃ W1, W1 = w.alloc (.cells #[.string ⟨#[]⟩, .slice none 0 0] 24) := ⟨_, rfl⟩
  have G1 : Below w.heap.size w W1 := by rw [hW1]; exact below_alloc w _
  have H1 : Hid (Has W1 w.heap.size #[.string ⟨#[]⟩, .slice none 0 0]) := Lib.hid (by rw [hW1]; exact Has.new _ _ _)
  have hr := h.lt
  have R1 := h.below G1
  have HBT := Lib.hid (begins_any W1 r ts 0 0 R1)
  have C1 := Lib.hid (Ch.of (r := r) G1)
  have HRR := Lib.hid R1
  have hneZ : w.heap.size ≠ r := by omega
  have HS1 : Hid (W1.heap.size = w.heap.size + 1) := Lib.hid (by rw [hW1]; simp)
  have HW1 := Lib.hid hW1
  cases hbg : begB (hd ts) with
  | false =>
    have HO : Hid (termF d ts = .bad (hd ts).2.2 1) := Lib.hid (termF_bad hbg)
    rw [hbg] at HBT
    generalize termF d ts = O at *
    clear hbg h R1 G1 hL IH
    unfold TmO
    go_enter Tryd.func117, Tryd.ntmps117
    go_upto_region 1 with fail
    rw [← hW1]
    clear hW1
    go_wp2_with fail
    refine HBT.out.mono ?_
    rintro e w2 ⟨rfl, k⟩
    have F2 := Lib.hid (fail_ok w2 r ts 0 1 (HRR.out.below k))
    have C2 := Lib.hid (C1.out.below k)
    have Z2 := Lib.hid (H1.out.step0 k)
    clear k HBT
    go_wp2_with fail
    refine F2.out.mono ?_
    rintro e w3 ⟨rfl, k1, k2⟩
    have R3 := Lib.hid k1
    have C3 := Lib.hid (C2.out.trans k2)
    obtain ⟨q1, q2, q3, q4, q5⟩ := (k2.has Z2.out hneZ).two
    clear k1 k2 F2
    generalize (hd ts).2.2 = ta at *
    go_wp2_with fail
    refine bodyPost_ret (v := .agg #[.string ⟨#[]⟩, .slice none 0 0]) (by simp [results, Tryd.results117, go_sem, q1, q2]) rfl (Or.inr ⟨ta, 1, ⟨#[]⟩, none, 0, 0, ts, HO.out, rfl, ?_, by decide, ?_⟩)
    · exact RR.far (RR.far R3.out (by exact hr) _) (by exact hr) _
    · exact (C3.out.put (Or.inr (by exact Nat.le_refl _)) _).put (Or.inr (by exact Nat.le_refl _)) _
  | true =>
    rw [hbg] at HBT
    cases d with
    | zero =>
      have HO : Hid (termF 0 ts = .bad (hd ts).2.2 3) := Lib.hid (by simp [termF, hbg])
      have hL5 : L = 5 := by omega
      subst hL5
      generalize termF 0 ts = O at *
      clear hbg h R1 G1 hL IH hd4
      unfold TmO
      go_enter Tryd.func117, Tryd.ntmps117
      go_upto_region 1 with fail
      rw [← hW1]
      clear hW1
      go_wp2_with fail
      refine HBT.out.mono ?_
      rintro e w2 ⟨rfl, k⟩
      have F2 := Lib.hid (fail_ok w2 r ts 0 3 (HRR.out.below k))
      have C2 := Lib.hid (C1.out.below k)
      have Z2 := Lib.hid (H1.out.step0 k)
      clear k HBT
      go_wp2_with fail
      refine F2.out.mono ?_
      rintro e w3 ⟨rfl, k1, k2⟩
      have R3 := Lib.hid k1
      have C3 := Lib.hid (C2.out.trans k2)
      obtain ⟨q1, q2, q3, q4, q5⟩ := (k2.has Z2.out hneZ).two
      clear k1 k2 F2
      generalize (hd ts).2.2 = ta at *
      go_wp2_with fail
      refine bodyPost_ret (v := .agg #[.string ⟨#[]⟩, .slice none 0 0]) (by simp [results, Tryd.results117, go_sem, q1, q2]) rfl (Or.inr ⟨ta, 3, ⟨#[]⟩, none, 0, 0, ts, HO.out, rfl, ?_, by decide, ?_⟩)
      · exact RR.far (RR.far R3.out (by exact hr) _) (by exact hr) _
      · exact (C3.out.put (Or.inr (by exact Nat.le_refl _)) _).put (Or.inr (by exact Nat.le_refl _)) _
    | succ d =>
      have HO : Hid (termF (d + 1) ts = if (hd ts).1 = 1 then (argsF (termF d) ts.tail).then fun l r => .good (.mk (hd ts).2.1 l) r else .good (.mk (hd ts).2.1 []) ts.tail) := Lib.hid (by simp [termF, hbg])
      have hL1 : 1 ≤ L := by omega
      have hL2 : L ≤ 4 := by omega
      have RE := Lib.hid (fun w2 (hR : RR w2 r ts 0 0) => rest_any (termF d) (f_bad d) L hL1 hL2 r (IH d rfl) w2 ts hR hbg)
      rw [← HO.out] at RE
      generalize termF (d + 1) ts = O at *
      have hL4 : decide (4 < L) = false := by simp; omega
      clear hbg h R1 G1 hL IH hd4 HO
      unfold TmO
      go_enter Tryd.func117, Tryd.ntmps117
      go_upto_region 1 with fail
      rw [← hW1]
      clear hW1
      go_wp2_with fail
      refine HBT.out.mono ?_
      rintro e w2 ⟨rfl, k⟩
      have RE2 := Lib.hid (RE.out w2 (HRR.out.below k))
      have C2 := Lib.hid (C1.out.below k)
      have Z2 := Lib.hid (H1.out.step0 k)
      have hz2 := Lib.hid k.size
      clear k HBT RE
      go_wp2_with fail
      refine RE2.out.mono ?_
      rintro e w3 (⟨t, ts3, p, c, hO, rfl, hS, hn, hR, hC⟩ | ⟨a, er, nm, p, m, c, ts3, hO, rfl, hR, her, hC⟩)
      · have R3 := Lib.hid hR
        have S3 := Lib.hid hS
        have N3 := Lib.hid hn
        have OO := Lib.hid hO
        have C3 := Lib.hid (C2.out.trans hC)
        obtain ⟨q1, q2, q3, q4, q5⟩ := (hC.has Z2.out hneZ).two
        clear hR hS hn hO hC RE2
        go_wp2_with fail
        refine bodyPost_ret (v := .agg #[.string t.nm, .slice p t.args.length c]) (by simp [results, Tryd.results117, go_sem, q1, q2]) rfl (Or.inl ⟨t, ts3, p, c, OO.out, rfl, ?_, N3.out, ?_, ?_⟩)
        · refine (S3.out.frame (fun b o hk => ?_)).weaken (fun b hb => ?_)
          · have hk1 := hk.1
            have := hz2.out
            have := HS1.out
            exact (cell_set (by show b ≠ w.heap.size; omega) _).trans (cell_set (by show b ≠ w.heap.size; omega) _)
          · have hb1 := hb.1
            have := hz2.out
            have := HS1.out
            exact ⟨by omega, by rw [set_size, set_size]; exact hb.2⟩
        · exact RR.far (RR.far R3.out (by exact hr) _) (by exact hr) _
        · exact (C3.out.put (Or.inr (by exact Nat.le_refl _)) _).put (Or.inr (by exact Nat.le_refl _)) _
      · have R3 := Lib.hid hR
        have E3 := Lib.hid her
        have OO := Lib.hid hO
        have C3 := Lib.hid (C2.out.trans hC)
        obtain ⟨q1, q2, q3, q4, q5⟩ := (hC.has Z2.out hneZ).two
        clear hR her hO hC RE2
        go_wp2_with fail
        refine bodyPost_ret (v := .agg #[.string nm, .slice p m c]) (by simp [results, Tryd.results117, go_sem, q1, q2]) rfl (Or.inr ⟨a, er, nm, p, m, c, ts3, OO.out, rfl, ?_, E3.out, ?_⟩)
        · exact RR.far (RR.far R3.out (by exact hr) _) (by exact hr) _
        · exact (C3.out.put (Or.inr (by exact Nat.le_refl _)) _).put (Or.inr (by exact Nat.le_refl _)) _
theorem tm_any (d : Nat) : ∀ (L : Int), L = 5 - (d : Int) → d ≤ 4 → ∀ (r : Nat) (w : World) (ts : List GTok), RR w r ts 0 0 →
    Calls Tryd.prog 117 #[.pointer (some ⟨r, 0, none⟩), .int .i64 L] w (TmO r w (termF d ts)) := by
  induction d with
  | zero => exact fun L hL hd r w ts h => tm_step 0 L hL hd r (fun d' e => by omega) w ts h
  | succ d ih => exact fun L hL hd r w ts h => tm_step (d + 1) L hL hd r (fun d' e w ts h => by
      obtain rfl : d = d' := by omega
      exact ih (L + 1) (by omega) (by omega) r w ts h) w ts h
/-- The term at the first level. -/
theorem tm_top (r : Nat) (w : World) (ts : List GTok) (h : RR w r ts 0 0) :
    Calls Tryd.prog 117 #[.pointer (some ⟨r, 0, none⟩), .int .i64 1] w (TmO r w (termF 4 ts)) := tm_any 4 1 (by decide) (by decide) r w ts h
/-- rest at the first level. -/
theorem rest_top (r : Nat) (w : World) (ts : List GTok) (h : RR w r ts 0 0) (hb : atomB (hd ts) = true) :
    Calls Tryd.prog 99 #[.pointer (some ⟨r, 0, none⟩), .int .i64 1] w (TmO r w (atomF ts)) := by
  have hk : (hd ts).1 = 1 := by unfold atomB at hb; simpa using hb
  have hbg : begB (hd ts) = true := by unfold begB; rw [hk]; rfl
  have := rest_any (termF 3) (f_bad 3) 1 (by decide) (by decide) r (fun w ts h => tm_any 3 2 (by decide) (by decide) r w ts h) w ts h hbg
  have e : atomF ts = if (hd ts).1 = 1 then (argsF (termF 3) ts.tail).then fun l r => .good (.mk (hd ts).2.1 l) r else .good (.mk (hd ts).2.1 []) ts.tail := by
    unfold atomF
    rw [if_pos hb, termF, if_neg (by rw [hbg]; simp)]
  rw [e]
  exact this
end RefD
end Go.Proofs.YtfdpelokiljigaaDoor
/- The reference's reader: atom, literal. No conditions but a reader in memory. -/
namespace Go.Proofs.YtfdpelokiljigaaDoor
open Go Go.RowKit
namespace RefE
open Kit LexM TermM TermI TermU LexE LexF LexG LexP LexQ ParM ParA ParB ParC ParD ParK ParV ParN RefA RefB RefC0 RefC RefD
set_option maxRecDepth 100000 in
set_option maxHeartbeats 3200000 in
theorem atom_ok (r : Nat) (w : World) (ts : List GTok) (h : RR w r ts 0 0) :
    Calls Tryd.prog 80 #[.pointer (some ⟨r, 0, none⟩)] w (TmO r w (atomF ts)) := by
  obtain ⟨W1, hW1⟩ : ∃ W1, W1 = w.alloc (.cells #[.string ⟨#[]⟩, .slice none 0 0] 24) := ⟨_, rfl⟩
  have G1 : Below w.heap.size w W1 := by rw [hW1]; exact below_alloc w _
  have H1 : Hid (Has W1 w.heap.size #[.string ⟨#[]⟩, .slice none 0 0]) := Lib.hid (by rw [hW1]; exact Has.new _ _ _)
  have hr := h.lt
  have R1 := h.below G1
  have C1 := Lib.hid (Ch.of (r := r) G1)
  have HRR := Lib.hid R1
  have hneZ : w.heap.size ≠ r := by omega
  have HS1 : Hid (W1.heap.size = w.heap.size + 1) := Lib.hid (by rw [hW1]; simp)
  have HW1 := Lib.hid hW1
  obtain ⟨g, o, c, n, i, i1, i2, i3, i4, i5, x1, x2, x3, x4, f1, f2, f3, y1, y2, y3, y4⟩ := R1.open
  have hi1 : (i : Int) < (n : Int) := by omega
  have hi0 : 0 ≤ (i : Int) := by omega
  have RE := Lib.hid (fun w2 (hR : RR w2 r ts 0 0) (hb : atomB (hd ts) = true) => rest_top r w2 ts hR hb)
  have HA : Hid (atomB (hd ts) = ((hd ts).1 == 1)) := Lib.hid rfl
  have HN := Lib.hid (fun (h : atomB (hd ts) = false) => show atomF ts = .bad (hd ts).2.2 1 from by unfold atomF; rw [if_neg (by rw [h]; decide)])
  have FL := Lib.hid (fun w2 (hR : RR w2 r ts 0 0) => fail_ok w2 r ts 0 1 hR)
  clear R1 G1 h
  generalize atomF ts = O at *
  generalize atomB (hd ts) = ab at *
  generalize (hd ts).1 = k at *
  generalize (hd ts).2.1 = tx at *
  generalize (hd ts).2.2 = ta at *
  unfold TmO at RE ⊢
  cases ab with
  | false =>
    have hk : (k != 1) = true := by rw [bne, ← HA.out]; rfl
    have HO := Lib.hid (HN.out rfl)
    clear RE HA HN
    go_enter Tryd.func80, Tryd.ntmps80
    go_upto_region 1 with fail
    rw [← hW1]
    clear hW1
    go_quiet (fail)
    have F2 := Lib.hid (FL.out (W1.drewN nq) (HRR.out.below (below_drewN (Below.refl _ _) nq)))
    have C2 := Lib.hid (C1.out.below (below_drewN (Below.refl _ _) nq))
    have Z2 := Lib.hid (H1.out.drewN nq)
    clear x1 x2 x3 x4 f1 f2 f3 y1 y2 y3 y4 i1 i2 i3 i4 i5 FL
    go_wp2_with fail
    refine F2.out.mono ?_
    rintro e w3 ⟨rfl, k1, k2⟩
    have R3 := Lib.hid k1
    have C3 := Lib.hid (C2.out.trans k2)
    obtain ⟨q1, q2, q3, q4, q5⟩ := (k2.has Z2.out hneZ).two
    clear k1 k2 F2
    go_wp2_with fail
    refine bodyPost_ret (v := .agg #[.string ⟨#[]⟩, .slice none 0 0]) (by simp [results, Tryd.results80, go_sem, q1, q2]) rfl (Or.inr ⟨ta, 1, ⟨#[]⟩, none, 0, 0, ts, HO.out, rfl, ?_, by decide, ?_⟩)
    · exact RR.far (RR.far R3.out (by exact hr) _) (by exact hr) _
    · exact (C3.out.put (Or.inr (by exact Nat.le_refl _)) _).put (Or.inr (by exact Nat.le_refl _)) _
  | true =>
    have hk : (k != 1) = false := by rw [bne, ← HA.out]; rfl
    clear HA HN FL
    go_enter Tryd.func80, Tryd.ntmps80
    go_upto_region 1 with fail
    rw [← hW1]
    clear hW1
    go_quiet (fail)
    have F2 := Lib.hid (RE.out (W1.drewN nq) (HRR.out.below (below_drewN (Below.refl _ _) nq)) rfl)
    have C2 := Lib.hid (C1.out.below (below_drewN (Below.refl _ _) nq))
    have Z2 := Lib.hid (H1.out.drewN nq)
    clear x1 x2 x3 x4 f1 f2 f3 y1 y2 y3 y4 i1 i2 i3 i4 i5 RE
    go_wp2_with fail
    refine F2.out.mono ?_
    rintro e w3 (⟨t, ts3, p, c, hO, rfl, hS, hn, hR, hC⟩ | ⟨a, er, nm, p, m, c, ts3, hO, rfl, hR, her, hC⟩)
    · have R3 := Lib.hid hR
      have S3 := Lib.hid hS
      have N3 := Lib.hid hn
      have OO := Lib.hid hO
      have C3 := Lib.hid (C2.out.trans hC)
      obtain ⟨q1, q2, q3, q4, q5⟩ := (hC.has Z2.out hneZ).two
      clear hR hS hn hO hC F2
      go_wp2_with fail
      refine bodyPost_ret (v := .agg #[.string t.nm, .slice p t.args.length c]) (by simp [results, Tryd.results80, go_sem, q1, q2]) rfl (Or.inl ⟨t, ts3, p, c, OO.out, rfl, ?_, N3.out, ?_, ?_⟩)
      · refine (S3.out.frame (fun b o hk => ?_)).weaken (fun b hb => ?_)
        · have hk1 : W1.heap.size ≤ b := hk.1
          have := HS1.out
          exact (cell_set (by show b ≠ w.heap.size; omega) _).trans (cell_set (by show b ≠ w.heap.size; omega) _)
        · have hb1 : W1.heap.size ≤ b := hb.1
          have := HS1.out
          exact ⟨by omega, by rw [set_size, set_size]; exact hb.2⟩
      · exact RR.far (RR.far R3.out (by exact hr) _) (by exact hr) _
      · exact (C3.out.put (Or.inr (by exact Nat.le_refl _)) _).put (Or.inr (by exact Nat.le_refl _)) _
    · have R3 := Lib.hid hR
      have E3 := Lib.hid her
      have OO := Lib.hid hO
      have C3 := Lib.hid (C2.out.trans hC)
      obtain ⟨q1, q2, q3, q4, q5⟩ := (hC.has Z2.out hneZ).two
      clear hR her hO hC F2
      go_wp2_with fail
      refine bodyPost_ret (v := .agg #[.string nm, .slice p m c]) (by simp [results, Tryd.results80, go_sem, q1, q2]) rfl (Or.inr ⟨a, er, nm, p, m, c, ts3, OO.out, rfl, ?_, E3.out, ?_⟩)
      · exact RR.far (RR.far R3.out (by exact hr) _) (by exact hr) _
      · exact (C3.out.put (Or.inr (by exact Nat.le_refl _)) _).put (Or.inr (by exact Nat.le_refl _)) _
set_option maxRecDepth 100000 in
set_option maxHeartbeats 3200000 in
theorem atom_err (r : Nat) (w : World) (ts : List GTok) (a er : Int) (her : er ≠ 0) (h : RR w r ts a er) :
    Calls Tryd.prog 80 #[.pointer (some ⟨r, 0, none⟩)] w fun e w' => e = .returned (.agg #[.string ⟨#[]⟩, .slice none 0 0]) ∧ Below w.heap.size w w' := by
  obtain ⟨W1, hW1⟩ : ∃ W1, W1 = w.alloc (.cells #[.string ⟨#[]⟩, .slice none 0 0] 24) := ⟨_, rfl⟩
  have G1 : Below w.heap.size w W1 := by rw [hW1]; exact below_alloc w _
  have H1 : Hid (Has W1 w.heap.size #[.string ⟨#[]⟩, .slice none 0 0]) := Lib.hid (by rw [hW1]; exact Has.new _ _ _)
  have R1 := h.below G1
  have GG := Lib.hid G1
  have HW1 := Lib.hid hW1
  obtain ⟨g, o, c, n, i, i1, i2, i3, i4, i5, x1, x2, x3, x4, f1, f2, f3, _⟩ := R1.open
  have he : (er != 0) = true := by rw [bne_iff_ne]; exact her
  have FL := Lib.hid (fun w2 (k : Below W1.heap.size W1 w2) => fail_err w2 r ts a er 1 (R1.below k) her)
  clear R1 G1 h her
  go_enter Tryd.func80, Tryd.ntmps80
  go_upto_region 1 with fail
  rw [← hW1]
  clear hW1
  go_quiet (fail)
  have F2 := Lib.hid (FL.out (W1.drewN nq) (below_drewN (Below.refl _ _) nq))
  have C2 := Lib.hid (below_drewN GG.out nq)
  obtain ⟨q1, q2, q3, q4, q5⟩ := (H1.out.drewN nq).two
  clear x1 x2 x3 x4 f1 f2 f3 i1 i2 i3 i4 i5 FL
  go_wp2_with fail
  refine F2.out.mono ?_
  rintro e w3 ⟨rfl, rfl⟩
  clear F2
  go_wp2_with fail
  refine bodyPost_ret (v := .agg #[.string ⟨#[]⟩, .slice none 0 0]) (by simp [results, Tryd.results80, go_sem, q1, q2]) rfl ⟨rfl, ?_⟩
  exact (C2.out.setCell (by exact Nat.le_refl _) _).setCell (by exact Nat.le_refl _) _
end RefE
end Go.Proofs.YtfdpelokiljigaaDoor
/- Lex of the reference: the same tokens. Condition: the text's length fits. -/
namespace Go.Proofs.YtfdpelokiljigaaDoor
open Go Go.RowKit
namespace LexR
open Kit LexM LexA LexB LexC LexD LexE LexF LexG
set_option maxRecDepth 100000 in
set_option maxHeartbeats 6400000 in
theorem rlex_any (s : ByteArray) (w : World) (hs : s.size ≤ 140737488355328) :
    Calls Tryd.prog 79 #[.string s] w (Lexed w (lexR s.data.toList)) := by
  by_cases hlong : 16384 < s.size
  · have V : Hid (lexR s.data.toList = ([], 0, 2)) := by unfold lexR; rw [len_eq, if_pos hlong]; exact rfl
    generalize lexR s.data.toList = R at *
    go_enter Tryd.func79, Tryd.ntmps79
    go_wp2_with fail
    go_ret3
    rw [V.out]
    exact Or.inl ⟨by decide, rfl, Below.refl _ _⟩
  have V : Hid (cat [] (lexF s.size 0 (s.data.toList.drop 0)) = lexR s.data.toList) := by
    unfold lexR
    rw [len_eq, if_neg hlong, List.drop_zero, lex_norm]; exact rfl
  generalize lexR s.data.toList = R at *
  obtain ⟨i0, hi, hz0, hz1, hz2⟩ := info_parts infoT
  go_enter Tryd.func79, Tryd.ntmps79
  go_wp2_with fail
  go_loopw [5, 6] (fun v i wL => ∃ (k : Nat) (acc : List Tok) (f : Nat), k ≤ s.size ∧ i = .int .i64 k ∧ acc.length ≤ k ∧ s.size - k ≤ f ∧ Hid (wL.ownsRow w.heap.size 76 3 v acc.length (acc.flatMap tcells)) ∧ Hid (cat acc (lexF f k (s.data.toList.drop k)) = R) ∧ Hid (Below w.heap.size w wL)) (fun _ i _ => s.size - (intOf i).toNat)
  case atStart => exact ⟨0, [], s.size, Nat.zero_le _, rfl, Nat.le_refl _, by omega, Lib.hid ⟨rfl, Or.inl ⟨rfl, rfl⟩⟩, V, Lib.hid (Below.refl _ _)⟩
  case round =>
    obtain ⟨k, acc, f, hk, rfl, hacc, hf, hO, hR, hB⟩ := hrel
    by_cases hlt : k < s.size
    · obtain ⟨f', rfl⟩ : ∃ f', f = f' + 1 := ⟨f - 1, by omega⟩
      have hne : s.data.toList.drop k ≠ [] := by
        intro h; have := congrArg List.length h; simp at this; omega
      have hst := lex_step f' k (s.data.toList.drop k) hne acc
      have hpl := piece_len (s.data.toList.drop k) hne
      have hdl : (s.data.toList.drop k).length = s.size - k := by simp
      have sp1 := spanL_le ncB (s.data.toList.drop k)
      have sp2 := spanL_le ruB (s.data.toList.drop k)
      rw [hdl] at hpl sp1 sp2
      rw [hR.out, List.drop_drop] at hst
      have BS := Lib.hid (fun n => bs_ext s k n)
      have TK : Hid (tok (pieceF (s.data.toList.drop k)) (s.data.toList.drop k) k = if (pieceF (s.data.toList.drop k)).1 = 0 then [] else [((pieceF (s.data.toList.drop k)).1, (s.data.toList.drop k).take (pieceF (s.data.toList.drop k)).2.1, k)]) := rfl
      have HP := Lib.hid (piece_eq s k hlt)
      have N1 := Lib.hid (span_next ncB s k hlt)
      have N2 := Lib.hid (span_next ruB s k hlt)
      generalize tok (pieceF (s.data.toList.drop k)) (s.data.toList.drop k) k = tk at *
      generalize pieceF (s.data.toList.drop k) = p at *
      generalize spanL ncB (s.data.toList.drop k) = n1 at *
      generalize spanL ruB (s.data.toList.drop k) = n2 at *
      have HST := Lib.hid hst
      have HPL := Lib.hid hpl
      clear hst hpl hne hdl hR
      cases c1 : blB s[k].toNat
      case true =>
        have Q : p = (0, 1, 0) := by rw [HP.out, c1]; rfl
        subst Q
        obtain rfl : tk = [] := TK.out
        have HN : Hid (cat acc (lexF f' (k + 1) (s.data.toList.drop (k + 1))) = R) := by
          have h := HST.out
          rw [if_pos rfl, List.append_nil] at h
          exact h.symm
        clear HP HST HPL TK N1 N2
        go_wp2_with (go_at_call 95; refine (rblank_any _ _).mono ?_; rintro e w' ⟨rfl, rfl⟩)
        go_roundw
        case rel => exact ⟨k + 1, acc, f', by omega, by go_num, by omega, by omega, hO, HN, hB⟩
        case measure => simp [intOf] <;> omega
      cases c2 : ((s[k].toNat : Int) == 35)
      case true =>
        have Q : p = (0, n1, 0) := by rw [HP.out, c1, c2]; rfl
        subst Q
        obtain rfl : tk = [] := TK.out
        have HN : Hid (cat acc (lexF f' (k + n1) (s.data.toList.drop (k + n1))) = R) := by
          have h := HST.out
          rw [if_pos rfl, List.append_nil] at h
          exact h.symm
        have h35 : (s[k].toNat : Int) = 35 := by simpa using c2
        have ST : Hid (k + 1 + spanL ncB (s.data.toList.drop (k + 1)) = k + n1) := by
          have h := N1.out
          rw [if_pos (by rw [h35]; rfl)] at h
          exact Lib.hid (by omega)
        clear HP HST HPL TK N1 N2 h35
        go_wp2_with (go_at_call 95; refine (rblank_any _ _).mono ?_; rintro e w' ⟨rfl, rfl⟩)
        go_loop [8] (fun v => ∃ j : Nat, k + 1 ≤ j ∧ j ≤ s.size ∧ v = .int .i64 j ∧ Hid (j + spanL ncB (s.data.toList.drop j) = k + n1)) (fun v => s.size - (intOf v).toNat)
        case atStart => exact ⟨k + 1, Nat.le_refl _, hlt, by go_num, ST⟩
        case round =>
          obtain ⟨j, hj1, hj2, rfl, hE⟩ := hrel
          by_cases hgo : ∃ h : j < s.size, ncB s[j].toNat = true
          · obtain ⟨hjl, hc⟩ := hgo
            have hn := span_next ncB s j hjl
            rw [if_pos hc] at hn
            have HX : Hid (j + 1 + spanL ncB (s.data.toList.drop (j + 1)) = k + n1) := by rw [← hE.out, hn]; exact Lib.hid (by omega)
            clear hn hE
            have c' : ((s[j].toNat : Int) != 10) = true := by simpa [ncB, bne] using hc
            go_wp2_with fail
            go_round
            case rel => exact ⟨j + 1, by omega, by omega, by go_num, HX⟩
            case measure => simp [intOf] <;> omega
          · have hstop : j = s.size ∨ ∃ h : j < s.size, ncB s[j].toNat = false := by
              by_cases h : j < s.size
              · right
                refine ⟨h, ?_⟩
                cases c : ncB s[j].toNat
                · rfl
                · exact absurd ⟨h, c⟩ hgo
              · left; omega
            have hjn : j = k + n1 := by
              have h := hE.out
              rcases hstop with h1 | ⟨h1, h2⟩
              · rw [span_end _ s j (by omega)] at h; omega
              · rw [span_next _ s j h1, if_neg (by rw [h2]; simp)] at h; omega
            clear hgo
            rcases hstop with hx | ⟨hx, hc⟩
            · have hx' : ¬ j < s.size := by omega
              clear hx hE
              have hjk : k + 1 ≤ k + n1 := by omega
              subst hjn
              go_wp2_with fail
              go_roundw
              case rel => exact ⟨k + n1, acc, f', by omega, by go_num, by omega, by omega, hO, HN, hB⟩
              case measure => simp [intOf] <;> omega
            · clear hE
              have c' : ((s[j].toNat : Int) != 10) = false := by simpa [ncB, bne] using hc
              have hjk : k + 1 ≤ k + n1 := by omega
              subst hjn
              go_wp2_with fail
              go_roundw
              case rel => exact ⟨k + n1, acc, f', by omega, by go_num, by omega, by omega, hO, HN, hB⟩
              case measure => simp [intOf] <;> omega
      cases c3 : syB s[k].toNat
      case true =>
        have Q : p = (4, 1, 0) := by rw [HP.out, c1, c2, c3]; rfl
        subst Q
        obtain rfl : tk = [(4, (s.data.toList.drop k).take 1, k)] := TK.out
        have HN : Hid (cat (acc ++ [(4, (s.data.toList.drop k).take 1, k)]) (lexF f' (k + 1) (s.data.toList.drop (k + 1))) = R) := by
          have h := HST.out
          rw [if_pos rfl] at h
          exact h.symm
        clear HP HST HPL TK N1 N2
        have e1 : (k : Int) + 1 ≤ (s.size : Int) := by omega
        have e2 : (k : Int) ≤ (k : Int) + 1 := by omega
        have e3 : (k : Int) < (s.size : Int) := by omega
        have A1 : acc.length + 1 ≤ maxLen := by unfold maxLen; omega
        have A2 : (acc.length + 1) * 32 ≤ 140737488355328 := by omega
        have A3 : w.heap.size ≤ (wr.alloc (.cells #[.int .i64 4, .string (s.extract k (k + 1)), .int .i64 k] 76)).heap.size := by have := hB.out.size; simp; omega
        go_wp2_with (first | (first | (go_at_call 95; refine (rblank_any _ _).mono ?_; rintro e w' ⟨rfl, rfl⟩) | (go_at_call 96; refine (rsymbol_any _ _).mono ?_; rintro e w' ⟨rfl, rfl⟩)) | (at_builtin; refine wpList_append_own _ rfl _ _ 72 rfl w.heap.size 76 i0 (.agg #[.int .i64 0, .string ⟨#[]⟩, .int .i64 0]) 3 32 Tryd.underlying72 hi hz0 hz1 hz2 rfl (by decide) _ _ _ rfl (hO.out.alloc _) ⟨wr.heap.size, 0, none⟩ 1 1 [.int .i64 4, .string (s.extract k (k + 1)), .int .i64 k] rfl rfl (news3 wr _ _ _ _) (one3 _ _ _) A1 A2 A3 ?_; intro v1 w1 hown1 hgrow1 _))
        have O2 : Hid (w1.ownsRow w.heap.size 76 3 v1 (acc ++ [(4, (s.data.toList.drop k).take (1), k)]).length ((acc ++ [(4, (s.data.toList.drop k).take (1), k)]).flatMap tcells)) := by
          rw [flat_snoc, List.length_append]
          rw [BS.out] at hown1
          exact hown1
        have B2 := Lib.hid ((hB.out.alloc hB.out.size _).grown hgrow1 A3 (own_ge hO.out))
        go_roundw
        case rel => exact ⟨k + (1), acc ++ [(4, (s.data.toList.drop k).take (1), k)], f', by omega, by go_num, by simp; omega, by omega, O2, HN, B2⟩
        case measure => simp [intOf] <;> omega
      cases c4 : ruB s[k].toNat
      case true =>
        have Q : p = (kindL ((s.data.toList.drop k).take n2), n2, kErr (kindL ((s.data.toList.drop k).take n2))) := by rw [HP.out, c1, c2, c3, c4]; rfl
        subst Q
        have ST : Hid (k + 1 + spanL ruB (s.data.toList.drop (k + 1)) = k + n2) := by
          have h := N2.out
          rw [if_pos c4] at h
          exact Lib.hid (by omega)
        have RK := kind_any (s.extract k (k + n2)) wr (by
          by_cases h : n2 = 0
          · have := N2.out; rw [if_pos c4] at this; omega
          · rw [ext_size s k n2 (by omega)]; omega)
        rw [ext_eq] at RK
        have RKH := Lib.hid RK
        clear HP N1 N2 RK
        dsimp only at HST HPL TK
        generalize kindL ((s.data.toList.drop k).take n2) = K at *
        go_wp2_with (first | (go_at_call 95; refine (rblank_any _ _).mono ?_; rintro e w' ⟨rfl, rfl⟩) | (go_at_call 96; refine (rsymbol_any _ _).mono ?_; rintro e w' ⟨rfl, rfl⟩) | (go_at_call 97; refine (rrun_any _ _).mono ?_; rintro e w' ⟨rfl, rfl⟩))
        go_loop [8] (fun v => ∃ j : Nat, k + 1 ≤ j ∧ j ≤ s.size ∧ v = .int .i64 j ∧ Hid (j + spanL ruB (s.data.toList.drop j) = k + n2)) (fun v => s.size - (intOf v).toNat)
        case atStart => exact ⟨k + 1, Nat.le_refl _, hlt, by go_num, ST⟩
        case round =>
          obtain ⟨j, hj1, hj2, rfl, hE⟩ := hrel
          by_cases hgo : ∃ h : j < s.size, ruB s[j].toNat = true
          · obtain ⟨hjl, hc⟩ := hgo
            have hn := span_next ruB s j hjl
            rw [if_pos hc] at hn
            have HX : Hid (j + 1 + spanL ruB (s.data.toList.drop (j + 1)) = k + n2) := by rw [← hE.out, hn]; exact Lib.hid (by omega)
            clear hn hE
            go_wp2_with (go_at_call 97; refine (rrun_any _ _).mono ?_; rintro e w' ⟨rfl, rfl⟩)
            go_round
            case rel => exact ⟨j + 1, by omega, by omega, by go_num, HX⟩
            case measure => simp [intOf] <;> omega
          · have hstop : j = s.size ∨ ∃ h : j < s.size, ruB s[j].toNat = false := by
              by_cases h : j < s.size
              · right
                refine ⟨h, ?_⟩
                cases c : ruB s[j].toNat
                · rfl
                · exact absurd ⟨h, c⟩ hgo
              · left; omega
            have hjn : j = k + n2 := by
              have h := hE.out
              rcases hstop with h1 | ⟨h1, h2⟩
              · rw [span_end _ s j (by omega)] at h; omega
              · rw [span_next _ s j h1, if_neg (by rw [h2]; simp)] at h; omega
            clear hgo
            rcases hstop with hx | ⟨hx, hc⟩
            · have hx' : ¬ j < s.size := by omega
              clear hx hE
              have hjk : k + 1 ≤ k + n2 := by omega
              have e1 : (k : Int) + (n2 : Int) ≤ (s.size : Int) := by omega
              have e2 : (k : Int) ≤ (k : Int) + (n2 : Int) := by omega
              subst hjn
              by_cases hK : K = 0
              · have HN : Hid (R = ([], k, 4)) := by
                  have h := HST.out
                  rw [hK] at h
                  rw [if_neg (by decide)] at h
                  exact h
                have hK' : (K == 0) = true := by simpa using hK
                clear HST HPL TK
                go_wp2_with (go_at_call 97; refine (rrun_any _ _).mono ?_; rintro e w' ⟨rfl, rfl⟩)
                refine RKH.out.mono ?_
                rintro e w' ⟨rfl, rfl⟩
                go_wp2_with fail
                go_ret3
                rw [HN.out]
                exact Or.inl ⟨by show (4 : Int) ≠ 0; decide, rfl, hB.out⟩
              · have hK' : (K == 0) = false := by simpa using hK
                obtain rfl : tk = [(K, (s.data.toList.drop k).take n2, k)] := by rw [TK.out, if_neg hK]
                have HN : Hid (cat (acc ++ [(K, (s.data.toList.drop k).take n2, k)]) (lexF f' (k + n2) (s.data.toList.drop (k + n2))) = R) := by
                  have h := HST.out
                  rw [if_pos (by unfold kErr; rw [if_neg hK])] at h
                  exact h.symm
                clear HST HPL TK
                go_wp2_with (go_at_call 97; refine (rrun_any _ _).mono ?_; rintro e w' ⟨rfl, rfl⟩)
                refine RKH.out.mono ?_
                rintro e w' ⟨rfl, rfl⟩
                have A1 : acc.length + 1 ≤ maxLen := by unfold maxLen; omega
                have A2 : (acc.length + 1) * 32 ≤ 140737488355328 := by omega
                have A3 : w.heap.size ≤ (wr.alloc (.cells #[.int .i64 K, .string (s.extract k (k + n2)), .int .i64 k] 76)).heap.size := by have := hB.out.size; simp; omega
                go_wp2_with (first | (fail) | (at_builtin; refine wpList_append_own _ rfl _ _ 72 rfl w.heap.size 76 i0 (.agg #[.int .i64 0, .string ⟨#[]⟩, .int .i64 0]) 3 32 Tryd.underlying72 hi hz0 hz1 hz2 rfl (by decide) _ _ _ rfl (hO.out.alloc _) ⟨wr.heap.size, 0, none⟩ 1 1 [.int .i64 K, .string (s.extract k (k + n2)), .int .i64 k] rfl rfl (news3 wr _ _ _ _) (one3 _ _ _) A1 A2 A3 ?_; intro v1 w1 hown1 hgrow1 _))
                have O2 : Hid (w1.ownsRow w.heap.size 76 3 v1 (acc ++ [(K, (s.data.toList.drop k).take (n2), k)]).length ((acc ++ [(K, (s.data.toList.drop k).take (n2), k)]).flatMap tcells)) := by
                  rw [flat_snoc, List.length_append]
                  rw [BS.out] at hown1
                  exact hown1
                have B2 := Lib.hid ((hB.out.alloc hB.out.size _).grown hgrow1 A3 (own_ge hO.out))
                go_roundw
                case rel => exact ⟨k + (n2), acc ++ [(K, (s.data.toList.drop k).take (n2), k)], f', by omega, by go_num, by simp; omega, by omega, O2, HN, B2⟩
                case measure => simp [intOf] <;> omega
            · clear hE
              have hjk : k + 1 ≤ k + n2 := by omega
              have e1 : (k : Int) + (n2 : Int) ≤ (s.size : Int) := by omega
              have e2 : (k : Int) ≤ (k : Int) + (n2 : Int) := by omega
              subst hjn
              by_cases hK : K = 0
              · have HN : Hid (R = ([], k, 4)) := by
                  have h := HST.out
                  rw [hK] at h
                  rw [if_neg (by decide)] at h
                  exact h
                have hK' : (K == 0) = true := by simpa using hK
                clear HST HPL TK
                go_wp2_with (go_at_call 97; refine (rrun_any _ _).mono ?_; rintro e w' ⟨rfl, rfl⟩)
                refine RKH.out.mono ?_
                rintro e w' ⟨rfl, rfl⟩
                go_wp2_with fail
                go_ret3
                rw [HN.out]
                exact Or.inl ⟨by show (4 : Int) ≠ 0; decide, rfl, hB.out⟩
              · have hK' : (K == 0) = false := by simpa using hK
                obtain rfl : tk = [(K, (s.data.toList.drop k).take n2, k)] := by rw [TK.out, if_neg hK]
                have HN : Hid (cat (acc ++ [(K, (s.data.toList.drop k).take n2, k)]) (lexF f' (k + n2) (s.data.toList.drop (k + n2))) = R) := by
                  have h := HST.out
                  rw [if_pos (by unfold kErr; rw [if_neg hK])] at h
                  exact h.symm
                clear HST HPL TK
                go_wp2_with (go_at_call 97; refine (rrun_any _ _).mono ?_; rintro e w' ⟨rfl, rfl⟩)
                refine RKH.out.mono ?_
                rintro e w' ⟨rfl, rfl⟩
                have A1 : acc.length + 1 ≤ maxLen := by unfold maxLen; omega
                have A2 : (acc.length + 1) * 32 ≤ 140737488355328 := by omega
                have A3 : w.heap.size ≤ (wr.alloc (.cells #[.int .i64 K, .string (s.extract k (k + n2)), .int .i64 k] 76)).heap.size := by have := hB.out.size; simp; omega
                go_wp2_with (first | (fail) | (at_builtin; refine wpList_append_own _ rfl _ _ 72 rfl w.heap.size 76 i0 (.agg #[.int .i64 0, .string ⟨#[]⟩, .int .i64 0]) 3 32 Tryd.underlying72 hi hz0 hz1 hz2 rfl (by decide) _ _ _ rfl (hO.out.alloc _) ⟨wr.heap.size, 0, none⟩ 1 1 [.int .i64 K, .string (s.extract k (k + n2)), .int .i64 k] rfl rfl (news3 wr _ _ _ _) (one3 _ _ _) A1 A2 A3 ?_; intro v1 w1 hown1 hgrow1 _))
                have O2 : Hid (w1.ownsRow w.heap.size 76 3 v1 (acc ++ [(K, (s.data.toList.drop k).take (n2), k)]).length ((acc ++ [(K, (s.data.toList.drop k).take (n2), k)]).flatMap tcells)) := by
                  rw [flat_snoc, List.length_append]
                  rw [BS.out] at hown1
                  exact hown1
                have B2 := Lib.hid ((hB.out.alloc hB.out.size _).grown hgrow1 A3 (own_ge hO.out))
                go_roundw
                case rel => exact ⟨k + (n2), acc ++ [(K, (s.data.toList.drop k).take (n2), k)], f', by omega, by go_num, by simp; omega, by omega, O2, HN, B2⟩
                case measure => simp [intOf] <;> omega
      case false =>
        have Q : p = (0, 0, 1) := by rw [HP.out, c1, c2, c3, c4]; rfl
        subst Q
        have HN : Hid (R = ([], k, 1)) := by
          have h := HST.out
          rw [if_neg (by decide)] at h
          exact h
        clear HP HST HPL TK N1 N2
        go_wp2_with (first | (go_at_call 95; refine (rblank_any _ _).mono ?_; rintro e w' ⟨rfl, rfl⟩) | (go_at_call 96; refine (rsymbol_any _ _).mono ?_; rintro e w' ⟨rfl, rfl⟩) | (go_at_call 97; refine (rrun_any _ _).mono ?_; rintro e w' ⟨rfl, rfl⟩))
        go_ret3
        rw [HN.out]
        exact Or.inl ⟨by show (1 : Int) ≠ 0; decide, rfl, hB.out⟩
    · obtain rfl : k = s.size := by omega
      have HN := hR.out
      rw [List.drop_eq_nil_of_le (by simp), lex_nil] at HN
      have HN2 := Lib.hid HN.symm
      clear HN hR
      have A1 : acc.length + 1 ≤ maxLen := by unfold maxLen; omega
      have A2 : (acc.length + 1) * 32 ≤ 140737488355328 := by omega
      have A3 : w.heap.size ≤ (wr.alloc (.cells #[.int .i64 0, .string ⟨#[]⟩, .int .i64 s.size] 76)).heap.size := by have := hB.out.size; simp; omega
      go_wp2_with (at_builtin; refine wpList_append_lies _ rfl _ _ 72 rfl w.heap.size 76 i0 (.agg #[.int .i64 0, .string ⟨#[]⟩, .int .i64 0]) 3 32 Tryd.underlying72 hi hz0 hz1 hz2 rfl (by decide) _ _ _ rfl (hO.out.alloc _) ⟨wr.heap.size, 0, none⟩ 1 1 [.int .i64 0, .string ⟨#[]⟩, .int .i64 s.size] rfl rfl (news3 wr _ _ _ _) (one3 _ _ _) (by decide) A1 A2 A3 (wr.heap.size + 1) (by simp) ?_; intro g cap w1 hown1 hgrow1 hat hlt1)
      have B2 := (hB.out.alloc hB.out.size _).grown hgrow1 A3 (own_ge hO.out)
      have hgg : w.heap.size ≤ g := own_ge hown1 g rfl
      go_ret3
      rw [HN2.out]
      refine Or.inr ⟨rfl, g, cap, ?_, ?_, hgg, hlt1, B2⟩
      · rw [List.length_append]; exact rfl
      · rw [flat_snoc, List.length_append]; exact hown1
end LexR
end Go.Proofs.YtfdpelokiljigaaDoor
/- The reference's begin, end and Term. Condition: the text's length. -/
namespace Go.Proofs.YtfdpelokiljigaaDoor
open Go Go.RowKit
namespace RefG
open Kit LexM TermM TermI TermU LexE LexF LexG LexP LexQ ParM ParA ParB ParC ParD ParK ParV ParN ParX ParX2 ParX3 ParB RefA RefB RefC0 RefC RefD
theorem tok_sy {k : Int} {x : List UInt8} {n : Nat} (h : LexQ.Good k x) : Sy (gt (k, x, n)) := by
  by_cases hk : k = 4 ∨ k = 5
  · exact Or.inl hk
  · refine Or.inr fun s hs => ?_
    cases hb : isB (gt (k, x, n)) s with
    | false => rfl
    | true =>
      exfalso
      unfold isB at hb
      rw [beq_iff_eq, ByteArray.toList_eq, ByteArray.toList_eq] at hb
      have hx : x = s.data.toList := by rw [← hb]; show x = (bs x).data.toList; simp [bs]
      have hp := h.2.2 [] rfl
      rw [List.append_nil, hx] at hp
      have h1 : (pieceF s.data.toList).1 = k := by rw [hp]
      apply hk
      rcases hs with rfl | rfl | rfl | rfl | rfl | rfl | rfl
      all_goals first | (left; rw [← h1]; decide +kernel) | (right; rw [← h1]; decide +kernel)
theorem lex_sy {l : List UInt8} (h : (lexR l).2.2 = 0) : ∀ t ∈ (lexR l).1.map gt, Sy t := by
  unfold lexR at h ⊢
  split at h
  · cases h
  · rename_i c
    rw [if_neg c]
    obtain ⟨xs, e, g, _⟩ := lexF_good _ _ _ h
    rw [e]
    intro t ht
    obtain ⟨u, hu, rfl⟩ := List.mem_map.1 ht
    rcases List.mem_append.1 hu with hu | hu
    · exact tok_sy (g u hu)
    · obtain rfl := List.mem_singleton.1 hu
      refine Or.inr fun s hs => ?_
      have hne : s ≠ ⟨#[]⟩ := by
        obtain ⟨a1, a2, a3, a4, a5, a6, a7⟩ := lit_ne
        rcases hs with rfl | rfl | rfl | rfl | rfl | rfl | rfl <;> assumption
      cases hb : isB (gt (0, [], 0 + l.length)) s with
      | false => rfl
      | true => exact absurd rfl (isB_ne hb hne)
set_option maxRecDepth 100000 in
set_option maxHeartbeats 1600000 in
theorem begin_ok (s : ByteArray) (w : World) (hs : s.size ≤ 140737488355328) (h0 : (lexR s.data.toList).2.2 = 0) :
    Calls Tryd.prog 55 #[.string s] w fun e w' => ∃ r, e = .returned (.pointer (some ⟨r, 0, none⟩)) ∧ w.heap.size ≤ r ∧ RR w' r ((lexR s.data.toList).1.map gt) 0 0 ∧ Below w.heap.size w w' := by
  have L := Lib.hid (lexed_ok2 (LexR.rlex_any s w hs) h0)
  have HE := Lib.hid (lexR_end h0)
  have HS := Lib.hid (lex_sy h0)
  clear h0
  unfold Got2 at L
  have hln : ((lexR s.data.toList).1.map gt).length = (lexR s.data.toList).1.length := by simp
  have HL := Lib.hid hln
  clear hln
  generalize lexR s.data.toList = R at *
  go_enter Tryd.func55, Tryd.ntmps55
  go_wp2_with fail
  refine L.out.mono ?_
  rintro e w1 ⟨g, cap, rfl, h1, h2, h3, h4, h5⟩
  have B := Lib.hid h5
  have T := Lib.hid h3
  have X := Lib.hid (And.intro h1 (And.intro h2 h4))
  clear h1 h2 h3 h4 h5 L
  go_wp2_with fail
  go_ret
  refine ⟨w1.heap.size, rfl, B.out.size, ⟨HE.out.1, fun t ht => ⟨HE.out.2.1 t ht, HS.out t ht⟩, g, 0, cap, R.1.length, 0, by rw [HL.out]; omega, by rw [← HL.out]; exact HE.out.2.2, X.out.1, X.out.2.1, ?_, T.out.1, ?_⟩, ?_⟩
  · exact Has.new w1 _ _
  · have := T.out.below (below_alloc w1 (.cells #[.slice (some ⟨g, 0, none⟩) R.1.length cap, .int .i64 0, .int .i64 0, .int .i64 0] 74)) T.out.1
    simpa using this
  · exact B.out.alloc B.out.size _
set_option maxRecDepth 100000 in
set_option maxHeartbeats 1600000 in
theorem begin_err (s : ByteArray) (w : World) (hs : s.size ≤ 140737488355328) (h0 : (lexR s.data.toList).2.2 ≠ 0) :
    Calls Tryd.prog 55 #[.string s] w fun e w' => ∃ r, e = .returned (.pointer (some ⟨r, 0, none⟩)) ∧ w.heap.size ≤ r ∧ Has w' r #[.slice none 0 0, .int .i64 0, .int .i64 (lexR s.data.toList).2.1, .int .i64 (lexR s.data.toList).2.2] ∧ Below w.heap.size w w' := by
  have L := Lib.hid (lexed_err (LexR.rlex_any s w hs) h0)
  clear h0
  generalize lexR s.data.toList = R at *
  go_enter Tryd.func55, Tryd.ntmps55
  go_wp2_with fail
  refine L.out.mono ?_
  rintro e w1 ⟨rfl, h5⟩
  have B := Lib.hid h5
  clear h5 L
  go_wp2_with fail
  go_ret
  exact ⟨w1.heap.size, rfl, B.out.size, Has.new w1 _ _, B.out.alloc B.out.size _⟩
end RefG
end Go.Proofs.YtfdpelokiljigaaDoor
