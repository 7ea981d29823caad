/- The reference's reader: atom, literal. No conditions but a reader in memory. -/
import Derived.Test.YtdalepdpobcpaaaDoorRefD
import Derived.Test.YtdalepdpobcpaaaDoorParK
import Derived.Deep.QuietTactic
import Derived.BigQuiet
namespace Go.Proofs.YtdalepdpobcpaaaDoor
open Go Go.RowKit
namespace RefE
open Kit LexM TermM TermI TermU LexE LexF LexG LexP LexQ ParM ParA ParB ParC ParD ParK ParV ParN RefA RefB RefC0 RefC RefD
set_option maxRecDepth 100000 in
set_option maxHeartbeats 3200000 in
theorem atom_ok (r : Nat) (w : World) (ts : List GTok) (h : RR w r ts 0 0) :
    Calls Tryd.prog 50 #[.pointer (some ⟨r, 0, none⟩)] w (TmO r w (atomF ts)) := by
  obtain ⟨W1, hW1⟩ : ∃ W1, W1 = w.alloc (.cells #[.string ⟨#[]⟩, .slice none 0 0] 31) := ⟨_, rfl⟩
  have G1 : Below w.heap.size w W1 := by rw [hW1]; exact below_alloc w _
  have H1 : Hid (Has W1 w.heap.size #[.string ⟨#[]⟩, .slice none 0 0]) := Lib.hid (by rw [hW1]; exact Has.new _ _ _)
  have hr := h.lt
  have R1 := h.below G1
  have C1 := Lib.hid (Ch.of (r := r) G1)
  have HRR := Lib.hid R1
  have hneZ : w.heap.size ≠ r := by omega
  have HS1 : Hid (W1.heap.size = w.heap.size + 1) := Lib.hid (by rw [hW1]; simp)
  have HW1 := Lib.hid hW1
  obtain ⟨g, o, c, n, i, i1, i2, i3, i4, i5, x1, x2, x3, x4, f1, f2, f3, y1, y2, y3, y4⟩ := R1.open
  have hi1 : (i : Int) < (n : Int) := by omega
  have hi0 : 0 ≤ (i : Int) := by omega
  have RE := Lib.hid (fun w2 (hR : RR w2 r ts 0 0) (hb : atomB (hd ts) = true) => rest_top r w2 ts hR hb)
  have HA : Hid (atomB (hd ts) = ((hd ts).1 == 1)) := Lib.hid rfl
  have HN := Lib.hid (fun (h : atomB (hd ts) = false) => show atomF ts = .bad (hd ts).2.2 1 from by unfold atomF; rw [if_neg (by rw [h]; decide)])
  have FL := Lib.hid (fun w2 (hR : RR w2 r ts 0 0) => fail_ok w2 r ts 0 1 hR)
  clear R1 G1 h
  generalize atomF ts = O at *
  generalize atomB (hd ts) = ab at *
  generalize (hd ts).1 = k at *
  generalize (hd ts).2.1 = tx at *
  generalize (hd ts).2.2 = ta at *
  unfold TmO at RE ⊢
  cases ab with
  | false =>
    have hk : (k != 1) = true := by rw [bne, ← HA.out]; rfl
    have HO := Lib.hid (HN.out rfl)
    clear RE HA HN
    go_enter Tryd.func50, Tryd.ntmps50
    go_upto_region 1 with fail
    rw [← hW1]
    clear hW1
    go_quiet (fail)
    have F2 := Lib.hid (FL.out (W1.drewN nq) (HRR.out.below (below_drewN (Below.refl _ _) nq)))
    have C2 := Lib.hid (C1.out.below (below_drewN (Below.refl _ _) nq))
    have Z2 := Lib.hid (H1.out.drewN nq)
    clear x1 x2 x3 x4 f1 f2 f3 y1 y2 y3 y4 i1 i2 i3 i4 i5 FL
    go_wp2_with fail
    refine F2.out.mono ?_
    rintro e w3 ⟨rfl, k1, k2⟩
    have R3 := Lib.hid k1
    have C3 := Lib.hid (C2.out.trans k2)
    obtain ⟨q1, q2, q3, q4, q5⟩ := (k2.has Z2.out hneZ).two
    clear k1 k2 F2
    go_wp2_with fail
    refine bodyPost_ret (v := .agg #[.string ⟨#[]⟩, .slice none 0 0]) (by simp [results, Tryd.results50, go_sem, q1, q2]) rfl (Or.inr ⟨ta, 1, ⟨#[]⟩, none, 0, 0, ts, HO.out, rfl, ?_, by decide, ?_⟩)
    · exact RR.far (RR.far R3.out (by exact hr) _) (by exact hr) _
    · exact (C3.out.put (Or.inr (by exact Nat.le_refl _)) _).put (Or.inr (by exact Nat.le_refl _)) _
  | true =>
    have hk : (k != 1) = false := by rw [bne, ← HA.out]; rfl
    clear HA HN FL
    go_enter Tryd.func50, Tryd.ntmps50
    go_upto_region 1 with fail
    rw [← hW1]
    clear hW1
    go_quiet (fail)
    have F2 := Lib.hid (RE.out (W1.drewN nq) (HRR.out.below (below_drewN (Below.refl _ _) nq)) rfl)
    have C2 := Lib.hid (C1.out.below (below_drewN (Below.refl _ _) nq))
    have Z2 := Lib.hid (H1.out.drewN nq)
    clear x1 x2 x3 x4 f1 f2 f3 y1 y2 y3 y4 i1 i2 i3 i4 i5 RE
    go_wp2_with fail
    refine F2.out.mono ?_
    rintro e w3 (⟨t, ts3, p, c, hO, rfl, hS, hn, hR, hC⟩ | ⟨a, er, nm, p, m, c, ts3, hO, rfl, hR, her, hC⟩)
    · have R3 := Lib.hid hR
      have S3 := Lib.hid hS
      have N3 := Lib.hid hn
      have OO := Lib.hid hO
      have C3 := Lib.hid (C2.out.trans hC)
      obtain ⟨q1, q2, q3, q4, q5⟩ := (hC.has Z2.out hneZ).two
      clear hR hS hn hO hC F2
      go_wp2_with fail
      refine bodyPost_ret (v := .agg #[.string t.nm, .slice p t.args.length c]) (by simp [results, Tryd.results50, go_sem, q1, q2]) rfl (Or.inl ⟨t, ts3, p, c, OO.out, rfl, ?_, N3.out, ?_, ?_⟩)
      · refine (S3.out.frame (fun b o hk => ?_)).weaken (fun b hb => ?_)
        · have hk1 : W1.heap.size ≤ b := hk.1
          have := HS1.out
          exact (cell_set (by show b ≠ w.heap.size; omega) _).trans (cell_set (by show b ≠ w.heap.size; omega) _)
        · have hb1 : W1.heap.size ≤ b := hb.1
          have := HS1.out
          exact ⟨by omega, by rw [set_size, set_size]; exact hb.2⟩
      · exact RR.far (RR.far R3.out (by exact hr) _) (by exact hr) _
      · exact (C3.out.put (Or.inr (by exact Nat.le_refl _)) _).put (Or.inr (by exact Nat.le_refl _)) _
    · have R3 := Lib.hid hR
      have E3 := Lib.hid her
      have OO := Lib.hid hO
      have C3 := Lib.hid (C2.out.trans hC)
      obtain ⟨q1, q2, q3, q4, q5⟩ := (hC.has Z2.out hneZ).two
      clear hR her hO hC F2
      go_wp2_with fail
      refine bodyPost_ret (v := .agg #[.string nm, .slice p m c]) (by simp [results, Tryd.results50, go_sem, q1, q2]) rfl (Or.inr ⟨a, er, nm, p, m, c, ts3, OO.out, rfl, ?_, E3.out, ?_⟩)
      · exact RR.far (RR.far R3.out (by exact hr) _) (by exact hr) _
      · exact (C3.out.put (Or.inr (by exact Nat.le_refl _)) _).put (Or.inr (by exact Nat.le_refl _)) _
set_option maxRecDepth 100000 in
set_option maxHeartbeats 3200000 in
theorem atom_err (r : Nat) (w : World) (ts : List GTok) (a er : Int) (her : er ≠ 0) (h : RR w r ts a er) :
    Calls Tryd.prog 50 #[.pointer (some ⟨r, 0, none⟩)] w fun e w' => e = .returned (.agg #[.string ⟨#[]⟩, .slice none 0 0]) ∧ Below w.heap.size w w' := by
  obtain ⟨W1, hW1⟩ : ∃ W1, W1 = w.alloc (.cells #[.string ⟨#[]⟩, .slice none 0 0] 31) := ⟨_, rfl⟩
  have G1 : Below w.heap.size w W1 := by rw [hW1]; exact below_alloc w _
  have H1 : Hid (Has W1 w.heap.size #[.string ⟨#[]⟩, .slice none 0 0]) := Lib.hid (by rw [hW1]; exact Has.new _ _ _)
  have R1 := h.below G1
  have GG := Lib.hid G1
  have HW1 := Lib.hid hW1
  obtain ⟨g, o, c, n, i, i1, i2, i3, i4, i5, x1, x2, x3, x4, f1, f2, f3, _⟩ := R1.open
  have he : (er != 0) = true := by rw [bne_iff_ne]; exact her
  have FL := Lib.hid (fun w2 (k : Below W1.heap.size W1 w2) => fail_err w2 r ts a er 1 (R1.below k) her)
  clear R1 G1 h her
  go_enter Tryd.func50, Tryd.ntmps50
  go_upto_region 1 with fail
  rw [← hW1]
  clear hW1
  go_quiet (fail)
  have F2 := Lib.hid (FL.out (W1.drewN nq) (below_drewN (Below.refl _ _) nq))
  have C2 := Lib.hid (below_drewN GG.out nq)
  obtain ⟨q1, q2, q3, q4, q5⟩ := (H1.out.drewN nq).two
  clear x1 x2 x3 x4 f1 f2 f3 i1 i2 i3 i4 i5 FL
  go_wp2_with fail
  refine F2.out.mono ?_
  rintro e w3 ⟨rfl, rfl⟩
  clear F2
  go_wp2_with fail
  refine bodyPost_ret (v := .agg #[.string ⟨#[]⟩, .slice none 0 0]) (by simp [results, Tryd.results50, go_sem, q1, q2]) rfl ⟨rfl, ?_⟩
  exact (C2.out.setCell (by exact Nat.le_refl _) _).setCell (by exact Nat.le_refl _) _
end RefE
end Go.Proofs.YtdalepdpobcpaaaDoor
