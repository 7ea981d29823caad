/- The reference's reader: term, atom, literal. No conditions but a reader in memory. -/
import Derived.Test.YtdalepdpobcpaaaDoorRefC
namespace Go.Proofs.YtdalepdpobcpaaaDoor
open Go Go.RowKit
namespace RefD
open Kit LexM TermM TermI TermU LexE LexF LexG LexP LexQ ParM ParA ParB ParC ParD ParV ParN RefA RefB RefC0 RefC
theorem f_bad (d : Nat) (ts : List GTok) (h : begB (hd ts) = false) : ∃ a er, termF d ts = .bad a er ∧ er ≠ 0 := by
  cases d <;> (rw [termF, if_pos h]; exact ⟨_, _, rfl, by decide⟩)
set_option maxRecDepth 100000 in
set_option maxHeartbeats 3200000 in
theorem tm_step (d : Nat) (L : Int) (hL : L = 5 - (d : Int)) (hd4 : d ≤ 4) (r : Nat)
    (IH : ∀ d', d = d' + 1 → ∀ (w : World) (ts : List GTok), RR w r ts 0 0 → Calls Tryd.prog 38 #[.pointer (some ⟨r, 0, none⟩), .int .i64 (L + 1)] w (TmO r w (termF d' ts)))
    (w : World) (ts : List GTok) (h : RR w r ts 0 0) :
    Calls Tryd.prog 38 #[.pointer (some ⟨r, 0, none⟩), .int .i64 L] w (TmO r w (termF d ts)) := by
  obtain ⟨W1, hW1⟩ : ∃ W1, W1 = w.alloc (.cells #[.string ⟨#[]⟩, .slice none 0 0] 31) := ⟨_, rfl⟩
  have G1 : Below w.heap.size w W1 := by rw [hW1]; exact below_alloc w _
  have H1 : Hid (Has W1 w.heap.size #[.string ⟨#[]⟩, .slice none 0 0]) := Lib.hid (by rw [hW1]; exact Has.new _ _ _)
  have hr := h.lt
  have R1 := h.below G1
  have HBT := Lib.hid (begins_any W1 r ts 0 0 R1)
  have C1 := Lib.hid (Ch.of (r := r) G1)
  have HRR := Lib.hid R1
  have hneZ : w.heap.size ≠ r := by omega
  have HS1 : Hid (W1.heap.size = w.heap.size + 1) := Lib.hid (by rw [hW1]; simp)
  have HW1 := Lib.hid hW1
  cases hbg : begB (hd ts) with
  | false =>
    have HO : Hid (termF d ts = .bad (hd ts).2.2 1) := Lib.hid (termF_bad hbg)
    rw [hbg] at HBT
    generalize termF d ts = O at *
    clear hbg h R1 G1 hL IH
    unfold TmO
    go_enter Tryd.func38, Tryd.ntmps38
    go_upto_region 1 with fail
    rw [← hW1]
    clear hW1
    go_wp2_with fail
    refine HBT.out.mono ?_
    rintro e w2 ⟨rfl, k⟩
    have F2 := Lib.hid (fail_ok w2 r ts 0 1 (HRR.out.below k))
    have C2 := Lib.hid (C1.out.below k)
    have Z2 := Lib.hid (H1.out.step0 k)
    clear k HBT
    go_wp2_with fail
    refine F2.out.mono ?_
    rintro e w3 ⟨rfl, k1, k2⟩
    have R3 := Lib.hid k1
    have C3 := Lib.hid (C2.out.trans k2)
    obtain ⟨q1, q2, q3, q4, q5⟩ := (k2.has Z2.out hneZ).two
    clear k1 k2 F2
    generalize (hd ts).2.2 = ta at *
    go_wp2_with fail
    refine bodyPost_ret (v := .agg #[.string ⟨#[]⟩, .slice none 0 0]) (by simp [results, Tryd.results38, go_sem, q1, q2]) rfl (Or.inr ⟨ta, 1, ⟨#[]⟩, none, 0, 0, ts, HO.out, rfl, ?_, by decide, ?_⟩)
    · exact RR.far (RR.far R3.out (by exact hr) _) (by exact hr) _
    · exact (C3.out.put (Or.inr (by exact Nat.le_refl _)) _).put (Or.inr (by exact Nat.le_refl _)) _
  | true =>
    rw [hbg] at HBT
    cases d with
    | zero =>
      have HO : Hid (termF 0 ts = .bad (hd ts).2.2 3) := Lib.hid (by simp [termF, hbg])
      have hL5 : L = 5 := by omega
      subst hL5
      generalize termF 0 ts = O at *
      clear hbg h R1 G1 hL IH hd4
      unfold TmO
      go_enter Tryd.func38, Tryd.ntmps38
      go_upto_region 1 with fail
      rw [← hW1]
      clear hW1
      go_wp2_with fail
      refine HBT.out.mono ?_
      rintro e w2 ⟨rfl, k⟩
      have F2 := Lib.hid (fail_ok w2 r ts 0 3 (HRR.out.below k))
      have C2 := Lib.hid (C1.out.below k)
      have Z2 := Lib.hid (H1.out.step0 k)
      clear k HBT
      go_wp2_with fail
      refine F2.out.mono ?_
      rintro e w3 ⟨rfl, k1, k2⟩
      have R3 := Lib.hid k1
      have C3 := Lib.hid (C2.out.trans k2)
      obtain ⟨q1, q2, q3, q4, q5⟩ := (k2.has Z2.out hneZ).two
      clear k1 k2 F2
      generalize (hd ts).2.2 = ta at *
      go_wp2_with fail
      refine bodyPost_ret (v := .agg #[.string ⟨#[]⟩, .slice none 0 0]) (by simp [results, Tryd.results38, go_sem, q1, q2]) rfl (Or.inr ⟨ta, 3, ⟨#[]⟩, none, 0, 0, ts, HO.out, rfl, ?_, by decide, ?_⟩)
      · exact RR.far (RR.far R3.out (by exact hr) _) (by exact hr) _
      · exact (C3.out.put (Or.inr (by exact Nat.le_refl _)) _).put (Or.inr (by exact Nat.le_refl _)) _
    | succ d =>
      have HO : Hid (termF (d + 1) ts = if (hd ts).1 = 1 then (argsF (termF d) ts.tail).then fun l r => .good (.mk (hd ts).2.1 l) r else .good (.mk (hd ts).2.1 []) ts.tail) := Lib.hid (by simp [termF, hbg])
      have hL1 : 1 ≤ L := by omega
      have hL2 : L ≤ 4 := by omega
      have RE := Lib.hid (fun w2 (hR : RR w2 r ts 0 0) => rest_any (termF d) (f_bad d) L hL1 hL2 r (IH d rfl) w2 ts hR hbg)
      rw [← HO.out] at RE
      generalize termF (d + 1) ts = O at *
      have hL4 : decide (4 < L) = false := by simp; omega
      clear hbg h R1 G1 hL IH hd4 HO
      unfold TmO
      go_enter Tryd.func38, Tryd.ntmps38
      go_upto_region 1 with fail
      rw [← hW1]
      clear hW1
      go_wp2_with fail
      refine HBT.out.mono ?_
      rintro e w2 ⟨rfl, k⟩
      have RE2 := Lib.hid (RE.out w2 (HRR.out.below k))
      have C2 := Lib.hid (C1.out.below k)
      have Z2 := Lib.hid (H1.out.step0 k)
      have hz2 := Lib.hid k.size
      clear k HBT RE
      go_wp2_with fail
      refine RE2.out.mono ?_
      rintro e w3 (⟨t, ts3, p, c, hO, rfl, hS, hn, hR, hC⟩ | ⟨a, er, nm, p, m, c, ts3, hO, rfl, hR, her, hC⟩)
      · have R3 := Lib.hid hR
        have S3 := Lib.hid hS
        have N3 := Lib.hid hn
        have OO := Lib.hid hO
        have C3 := Lib.hid (C2.out.trans hC)
        obtain ⟨q1, q2, q3, q4, q5⟩ := (hC.has Z2.out hneZ).two
        clear hR hS hn hO hC RE2
        go_wp2_with fail
        refine bodyPost_ret (v := .agg #[.string t.nm, .slice p t.args.length c]) (by simp [results, Tryd.results38, go_sem, q1, q2]) rfl (Or.inl ⟨t, ts3, p, c, OO.out, rfl, ?_, N3.out, ?_, ?_⟩)
        · refine (S3.out.frame (fun b o hk => ?_)).weaken (fun b hb => ?_)
          · have hk1 := hk.1
            have := hz2.out
            have := HS1.out
            exact (cell_set (by show b ≠ w.heap.size; omega) _).trans (cell_set (by show b ≠ w.heap.size; omega) _)
          · have hb1 := hb.1
            have := hz2.out
            have := HS1.out
            exact ⟨by omega, by rw [set_size, set_size]; exact hb.2⟩
        · exact RR.far (RR.far R3.out (by exact hr) _) (by exact hr) _
        · exact (C3.out.put (Or.inr (by exact Nat.le_refl _)) _).put (Or.inr (by exact Nat.le_refl _)) _
      · have R3 := Lib.hid hR
        have E3 := Lib.hid her
        have OO := Lib.hid hO
        have C3 := Lib.hid (C2.out.trans hC)
        obtain ⟨q1, q2, q3, q4, q5⟩ := (hC.has Z2.out hneZ).two
        clear hR her hO hC RE2
        go_wp2_with fail
        refine bodyPost_ret (v := .agg #[.string nm, .slice p m c]) (by simp [results, Tryd.results38, go_sem, q1, q2]) rfl (Or.inr ⟨a, er, nm, p, m, c, ts3, OO.out, rfl, ?_, E3.out, ?_⟩)
        · exact RR.far (RR.far R3.out (by exact hr) _) (by exact hr) _
        · exact (C3.out.put (Or.inr (by exact Nat.le_refl _)) _).put (Or.inr (by exact Nat.le_refl _)) _
theorem tm_any (d : Nat) : ∀ (L : Int), L = 5 - (d : Int) → d ≤ 4 → ∀ (r : Nat) (w : World) (ts : List GTok), RR w r ts 0 0 →
    Calls Tryd.prog 38 #[.pointer (some ⟨r, 0, none⟩), .int .i64 L] w (TmO r w (termF d ts)) := by
  induction d with
  | zero => exact fun L hL hd r w ts h => tm_step 0 L hL hd r (fun d' e => by omega) w ts h
  | succ d ih => exact fun L hL hd r w ts h => tm_step (d + 1) L hL hd r (fun d' e w ts h => by
      obtain rfl : d = d' := by omega
      exact ih (L + 1) (by omega) (by omega) r w ts h) w ts h
/-- The term at the first level. -/
theorem tm_top (r : Nat) (w : World) (ts : List GTok) (h : RR w r ts 0 0) :
    Calls Tryd.prog 38 #[.pointer (some ⟨r, 0, none⟩), .int .i64 1] w (TmO r w (termF 4 ts)) := tm_any 4 1 (by decide) (by decide) r w ts h
/-- rest at the first level. -/
theorem rest_top (r : Nat) (w : World) (ts : List GTok) (h : RR w r ts 0 0) (hb : atomB (hd ts) = true) :
    Calls Tryd.prog 63 #[.pointer (some ⟨r, 0, none⟩), .int .i64 1] w (TmO r w (atomF ts)) := by
  have hk : (hd ts).1 = 1 := by unfold atomB at hb; simpa using hb
  have hbg : begB (hd ts) = true := by unfold begB; rw [hk]; rfl
  have := rest_any (termF 3) (f_bad 3) 1 (by decide) (by decide) r (fun w ts h => tm_any 3 2 (by decide) (by decide) r w ts h) w ts h hbg
  have e : atomF ts = if (hd ts).1 = 1 then (argsF (termF 3) ts.tail).then fun l r => .good (.mk (hd ts).2.1 l) r else .good (.mk (hd ts).2.1 []) ts.tail := by
    unfold atomF
    rw [if_pos hb, termF, if_neg (by rw [hbg]; simp)]
  rw [e]
  exact this
end RefD
end Go.Proofs.YtdalepdpobcpaaaDoor
