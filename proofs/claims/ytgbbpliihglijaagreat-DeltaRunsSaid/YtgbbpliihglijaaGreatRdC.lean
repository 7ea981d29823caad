/- gameplayerplain's reader in memory: word. Condition: a text of at most a million bytes. Made by genrdc.py. -/
import Derived.Test.YtgbbpliihglijaaGreatRdL
import Derived.Deep.LoopGhost
namespace Go.Proofs.YtgbbpliihglijaaGreat
open Go Go.RowKit
namespace RdC
open Kit LexM TermM TermI TermU UniK RdM RdA RdB
theorem wd_nat (c : UInt8) : wd c = true ↔ c.toNat = 45 ∨ (48 ≤ c.toNat ∧ c.toNat ≤ 57) ∨ (97 ≤ c.toNat ∧ c.toNat ≤ 122) ∨ (65 ≤ c.toNat ∧ c.toNat ≤ 90) := by
  unfold wd
  simp only [Bool.or_eq_true, Bool.and_eq_true, beq_iff_eq, decide_eq_true_eq, UInt8.le_iff_toNat_le, ← UInt8.toNat_inj]
  exact Iff.rfl
theorem okm {s : ByteArray} {k : Nat} (h : k < s.size) : s[k] ∈ s.data.toList := by
  have : s.data.toList[k]'(by simpa using h) = s[k] := rfl
  rw [← this]
  exact List.getElem_mem _
theorem cut_list (s : ByteArray) (a k : Nat) : (s.extract a k).data.toList = (s.data.toList.drop a).take (k - a) := by
  rw [ByteArray.data_extract, Array.toList_extract, List.extract_eq_take_drop]
theorem cut_run (s : ByteArray) (a k : Nat) (h1 : a ≤ k) (h2 : k ≤ s.size) (W : List UInt8) (hW : (s.data.toList.drop a).take (k - a) = W) (w : World) :
    (Instr.slice 9 (.string s) (some (.int .i64 (a : Int))) (some (.int .i64 (k : Int))) none).run Tryz.prog w = .ok (.string (bs W)) w := by
  have h := run_slice_string (P := Tryz.prog) w 9 s .i64 .i64 (a : Int) (k : Int) Tryz.underlying9 (by omega) (by omega) (by omega)
  rw [h]
  have e : s.extract (a : Int).toNat (k : Int).toNat = bs W := Go.WideShapes.bytes_inj (by
    rw [Int.toNat_natCast, Int.toNat_natCast, cut_list, hW]
    simp [bs])
  rw [e]
/-- What word leaves. -/
def WdQ (r : Nat) (s : ByteArray) (o : List UInt8 × List UInt8) (w : World) (e : Ending) (w' : World) : Prop := e = .returned (.string (bs o.1)) ∧ Rd w' r s o.2 ∧ Ch r w w'
def LW (r : Nat) (s : ByteArray) (a : Nat) (W T : List UInt8) (w : World) (gk : Nat) (wr : World) : Prop :=
  ∃ (m : List UInt8) (k : Nat), m.length = gk ∧ k + m.length = s.size ∧ s.data.toList.drop k = m ∧ Has wr r #[.string s, .int .i64 k] ∧ Ch r w wr ∧ a ≤ k ∧ m.dropWhile wd = T ∧ (s.data.toList.drop a).take (k - a) ++ m.takeWhile wd = W
theorem lw_go {r : Nat} {s : ByteArray} {a k : Nat} {W T : List UInt8} {w w5 : World} {c : UInt8} {m : List UInt8} (hw : wd c = true) (hk : k + (c :: m).length = s.size) (hd : s.data.toList.drop k = c :: m) (h5 : Has w5 r #[.string s, .int .i64 k]) (c5 : Ch r w w5) (ha : a ≤ k) (hT : (c :: m).dropWhile wd = T) (hW : (s.data.toList.drop a).take (k - a) ++ (c :: m).takeWhile wd = W) :
    LW r s a W T w m.length (w5.setCell ⟨r, 1, none⟩ (.int .i64 ((k : Int) + 1))) := by
  obtain ⟨h1, h2⟩ := drop_step hk hd
  refine ⟨m, k + 1, rfl, h1, h2, h5.set 1 (.int .i64 ((k : Int) + 1)), c5.put (Or.inl rfl) _, by omega, by rw [← hT]; simp [hw], ?_⟩
  rw [← hW, List.takeWhile_cons_of_pos hw, show k + 1 - a = (k - a) + 1 by omega]
  have e : (s.data.toList.drop a)[k - a]? = some c := by
    rw [List.getElem?_drop, show a + (k - a) = k by omega]
    have := congrArg (fun x => x[0]?) hd
    simpa using this
  rw [take_get _ _ _ e]
  simp
/-- A byte of a trusted text. -/
def okB (c : UInt8) : Bool := wd c || c < 48
theorem cls5 (c : UInt8) (h : okB c = true) : (c.toNat = 45) ∨ (c.toNat ≤ 47 ∧ c.toNat ≠ 45) ∨ (48 ≤ c.toNat ∧ c.toNat ≤ 57) ∨ (65 ≤ c.toNat ∧ c.toNat ≤ 90) ∨ (97 ≤ c.toNat ∧ c.toNat ≤ 122) := by
  unfold okB at h
  rw [Bool.or_eq_true, wd_nat, decide_eq_true_eq, UInt8.lt_iff_toNat_lt] at h
  have e : (48 : UInt8).toNat = 48 := rfl
  rw [e] at h
  rcases h with (h | h | h | h) | h
  · exact Or.inl h
  · exact Or.inr (Or.inr (Or.inl h))
  · exact Or.inr (Or.inr (Or.inr (Or.inr h)))
  · exact Or.inr (Or.inr (Or.inr (Or.inl h)))
  · by_cases h5 : c.toNat = 45
    · exact Or.inl h5
    · exact Or.inr (Or.inl ⟨by omega, h5⟩)
set_option maxRecDepth 100000 in
set_option maxHeartbeats 6400000 in
theorem word_any (s : ByteArray) (l : List UInt8) (w : World) (r : Nat) (hok : ∀ c ∈ s.data.toList, okB c = true) (h : Rd w r s l) :
    Calls Tryz.prog 41 #[.pointer (some ⟨r, 0, none⟩)] w (WdQ r s (wordL l) w) := by
  have hs0 := h.1
  have CB := Lib.hid (blank_any s l w r h)
  have HL1 : Hid ((wordL l).1 = (blankL l).takeWhile wd) := Lib.hid rfl
  have HL2 : Hid ((wordL l).2 = (blankL l).dropWhile wd) := Lib.hid rfl
  unfold BlQ at CB
  generalize blankL l = m0 at *
  clear h
  unfold WdQ
  obtain ⟨W, hW⟩ : ∃ W, (wordL l).1 = W := ⟨_, rfl⟩
  obtain ⟨T, hT⟩ : ∃ T, (wordL l).2 = T := ⟨_, rfl⟩
  rw [hW] at HL1 ⊢
  rw [hT] at HL2 ⊢
  clear hW hT
  go_enter Tryz.func41, Tryz.ntmps41
  go_wp2_with fail
  refine CB.out.mono ?_
  rintro e w2 ⟨rfl, hR, hC⟩
  obtain ⟨_, a, hk, hd, hH⟩ := hR
  obtain ⟨y1, y2, f1, f2, hlt⟩ := hH.two
  have L0 : Hid (LW r s a W T w m0.length w2) := Lib.hid ⟨m0, a, rfl, hk, hd, hH, hC, Nat.le_refl _, HL2.out.symm, by rw [Nat.sub_self, List.take_zero, List.nil_append]; exact HL1.out.symm⟩
  have ha : a ≤ s.size := by omega
  generalize m0.length = n0 at *
  clear hk hd hH hC CB HL1 HL2
  go_wp2_with fail
  clear y1 y2 f1 f2 hlt
  go_loopg [] n0 (fun gk wr => Hid (LW r s a W T w gk wr))
  case atStart => exact L0
  case round =>
    clear L0
    obtain ⟨m, k, hm, hk, hd, hH, hC, hak, hmT, hmW⟩ := hrel.out
    obtain ⟨y1, y2, f1, f2, hlt⟩ := hH.two
    have HM := Lib.hid hm
    have HT := Lib.hid hmT
    have HW := Lib.hid hmW
    have HC := Lib.hid hC
    have HH := Lib.hid hH
    have HA := Lib.hid hak
    have i0 : (a : Int) ≤ (k : Int) := by omega
    have i1 : (0 : Int) ≤ (k : Int) := by omega
    have i4 : (0 : Int) ≤ (a : Int) := by omega
    have i5 : (k : Int) ≤ (s.size : Int) := by omega
    have i3 : (k : Int) ≤ 1000000 := by omega
    clear hm hmT hmW hC hH hrel
    go_wp2_with fail
    simp only [List.append_eq, List.cons_append, List.nil_append]
    refine wp_region_quiet_lit (by kernel_rfl) RdL.lex3 ?_
    cases m with
    | nil =>
      have hkn : k = s.size := by simpa using hk
      have c1 : decide (k < s.size) = false := by rw [hkn]; simp
      have E := fun w' => cut_run s a k hak (by omega) W (by have := HW.out; rwa [List.takeWhile_nil, List.append_nil] at this) w'
      have HK := Lib.hid hk
      have HD := Lib.hid hd
      clear hk hd hkn hak
      repeat (go_big_quiet_step (fail))
      refine wpQuiet_nil ?_
      intro _ hw'
      obtain ⟨nq, hw''⟩ := hw'
      subst hw''
      go_wp2_with fail
      go_quiet (fail)
      go_wp2_with fail
      go_ret
      refine ⟨rfl, ⟨hs0, k, (by rw [← HT.out]; exact HK.out), ?_, HH.out.step0 (below_drewN (below_drewN (Below.refl _ _) _) _)⟩, HC.out.below (below_drewN (below_drewN (Below.refl _ _) _) _)⟩
      rw [← HT.out]
      exact (HD.out.trans (by simp))
    | cons c m =>
      obtain ⟨hks, hb⟩ := byte_at hk hd
      have c1 : decide (k < s.size) = true := by simpa using hks
      have i2 : (k : Int) < (s.size : Int) := by omega
      have hn := hb
      have hc8 : c.toNat < 256 := UInt8.toNat_lt c
      have HK := Lib.hid hk
      have HD := Lib.hid hd
      clear hk hd
      have hcl := cls5 c (hok c (by rw [← hb]; exact okm hks))
      rcases hcl with hcl | hcl | hcl | hcl | hcl
      · rw [← hb] at hcl
        have b1 : ((s[k].toNat : Int) == 45) = true := by rw [beq_iff_eq]; omega
        have b2 : decide (48 ≤ (s[k].toNat : Int)) = false := by rw [decide_eq_false_iff_not]; omega
        have b3 : decide ((s[k].toNat : Int) ≤ 57) = true := by rw [decide_eq_true_eq]; omega
        have b4 : decide (97 ≤ (s[k].toNat : Int)) = false := by rw [decide_eq_false_iff_not]; omega
        have b5 : decide ((s[k].toNat : Int) ≤ 122) = true := by rw [decide_eq_true_eq]; omega
        have b6 : decide (65 ≤ (s[k].toNat : Int)) = false := by rw [decide_eq_false_iff_not]; omega
        have b7 : decide ((s[k].toNat : Int) ≤ 90) = true := by rw [decide_eq_true_eq]; omega
        have HWD : Hid (wd c = true) := Lib.hid (by rw [wd_nat, ← hb]; omega)
        clear hcl hn hb hc8 hak
        repeat (go_big_quiet_step (fail))
        refine wpQuiet_nil ?_
        intro _ hw'
        obtain ⟨nq, hw''⟩ := hw'
        subst hw''
        have H5 := Lib.hid (HH.out.step0 (below_drewN (Below.refl _ _) nq))
        have C5 := Lib.hid (HC.out.below (below_drewN (Below.refl _ _) nq))
        go_wp2_with fail
        have G5 := Lib.hid (lw_go HWD.out HK.out HD.out H5.out C5.out HA.out HT.out HW.out)
        go_roundg (gk - 1)
        case rel => have := HM.out; simp at this; rw [show gk - 1 = m.length by omega]; exact G5
        case measure => have := HM.out; simp at this; omega
      · rw [← hb] at hcl
        have b1 : ((s[k].toNat : Int) == 45) = false := by rw [beq_eq_false_iff_ne]; omega
        have b2 : decide (48 ≤ (s[k].toNat : Int)) = false := by rw [decide_eq_false_iff_not]; omega
        have b4 : decide (97 ≤ (s[k].toNat : Int)) = false := by rw [decide_eq_false_iff_not]; omega
        have b6 : decide (65 ≤ (s[k].toNat : Int)) = false := by rw [decide_eq_false_iff_not]; omega
        have HWD : Hid (wd c = false) := Lib.hid (by rw [Bool.eq_false_iff]; intro e; rw [wd_nat, ← hb] at e; omega)
        have E := fun w' => cut_run s a k hak (by omega) W (by have := HW.out; rwa [List.takeWhile_cons_of_neg (by rw [HWD.out]; decide), List.append_nil] at this) w'
        clear hcl hn hb hc8 hak
        repeat (go_big_quiet_step (fail))
        refine wpQuiet_nil ?_
        intro _ hw'
        obtain ⟨nq, hw''⟩ := hw'
        subst hw''
        go_wp2_with fail
        go_quiet (fail)
        go_wp2_with fail
        go_ret
        refine ⟨rfl, ⟨hs0, k, (by rw [← HT.out, List.dropWhile_cons_of_neg (by rw [HWD.out]; decide)]; exact HK.out), ?_, HH.out.step0 (below_drewN (below_drewN (Below.refl _ _) _) _)⟩, HC.out.below (below_drewN (below_drewN (Below.refl _ _) _) _)⟩
        rw [← HT.out]
        exact (HD.out.trans (by simp [HWD.out]))
      · rw [← hb] at hcl
        have b1 : ((s[k].toNat : Int) == 45) = false := by rw [beq_eq_false_iff_ne]; omega
        have b2 : decide (48 ≤ (s[k].toNat : Int)) = true := by rw [decide_eq_true_eq]; omega
        have b3 : decide ((s[k].toNat : Int) ≤ 57) = true := by rw [decide_eq_true_eq]; omega
        have b4 : decide (97 ≤ (s[k].toNat : Int)) = false := by rw [decide_eq_false_iff_not]; omega
        have b5 : decide ((s[k].toNat : Int) ≤ 122) = true := by rw [decide_eq_true_eq]; omega
        have b6 : decide (65 ≤ (s[k].toNat : Int)) = false := by rw [decide_eq_false_iff_not]; omega
        have b7 : decide ((s[k].toNat : Int) ≤ 90) = true := by rw [decide_eq_true_eq]; omega
        have HWD : Hid (wd c = true) := Lib.hid (by rw [wd_nat, ← hb]; omega)
        clear hcl hn hb hc8 hak
        repeat (go_big_quiet_step (fail))
        refine wpQuiet_nil ?_
        intro _ hw'
        obtain ⟨nq, hw''⟩ := hw'
        subst hw''
        have H5 := Lib.hid (HH.out.step0 (below_drewN (Below.refl _ _) nq))
        have C5 := Lib.hid (HC.out.below (below_drewN (Below.refl _ _) nq))
        go_wp2_with fail
        have G5 := Lib.hid (lw_go HWD.out HK.out HD.out H5.out C5.out HA.out HT.out HW.out)
        go_roundg (gk - 1)
        case rel => have := HM.out; simp at this; rw [show gk - 1 = m.length by omega]; exact G5
        case measure => have := HM.out; simp at this; omega
      · rw [← hb] at hcl
        have b1 : ((s[k].toNat : Int) == 45) = false := by rw [beq_eq_false_iff_ne]; omega
        have b2 : decide (48 ≤ (s[k].toNat : Int)) = true := by rw [decide_eq_true_eq]; omega
        have b3 : decide ((s[k].toNat : Int) ≤ 57) = false := by rw [decide_eq_false_iff_not]; omega
        have b4 : decide (97 ≤ (s[k].toNat : Int)) = false := by rw [decide_eq_false_iff_not]; omega
        have b5 : decide ((s[k].toNat : Int) ≤ 122) = true := by rw [decide_eq_true_eq]; omega
        have b6 : decide (65 ≤ (s[k].toNat : Int)) = true := by rw [decide_eq_true_eq]; omega
        have b7 : decide ((s[k].toNat : Int) ≤ 90) = true := by rw [decide_eq_true_eq]; omega
        have HWD : Hid (wd c = true) := Lib.hid (by rw [wd_nat, ← hb]; omega)
        clear hcl hn hb hc8 hak
        repeat (go_big_quiet_step (fail))
        refine wpQuiet_nil ?_
        intro _ hw'
        obtain ⟨nq, hw''⟩ := hw'
        subst hw''
        have H5 := Lib.hid (HH.out.step0 (below_drewN (Below.refl _ _) nq))
        have C5 := Lib.hid (HC.out.below (below_drewN (Below.refl _ _) nq))
        go_wp2_with fail
        have G5 := Lib.hid (lw_go HWD.out HK.out HD.out H5.out C5.out HA.out HT.out HW.out)
        go_roundg (gk - 1)
        case rel => have := HM.out; simp at this; rw [show gk - 1 = m.length by omega]; exact G5
        case measure => have := HM.out; simp at this; omega
      · rw [← hb] at hcl
        have b1 : ((s[k].toNat : Int) == 45) = false := by rw [beq_eq_false_iff_ne]; omega
        have b2 : decide (48 ≤ (s[k].toNat : Int)) = true := by rw [decide_eq_true_eq]; omega
        have b3 : decide ((s[k].toNat : Int) ≤ 57) = false := by rw [decide_eq_false_iff_not]; omega
        have b4 : decide (97 ≤ (s[k].toNat : Int)) = true := by rw [decide_eq_true_eq]; omega
        have b5 : decide ((s[k].toNat : Int) ≤ 122) = true := by rw [decide_eq_true_eq]; omega
        have b6 : decide (65 ≤ (s[k].toNat : Int)) = true := by rw [decide_eq_true_eq]; omega
        have b7 : decide ((s[k].toNat : Int) ≤ 90) = false := by rw [decide_eq_false_iff_not]; omega
        have HWD : Hid (wd c = true) := Lib.hid (by rw [wd_nat, ← hb]; omega)
        clear hcl hn hb hc8 hak
        repeat (go_big_quiet_step (fail))
        refine wpQuiet_nil ?_
        intro _ hw'
        obtain ⟨nq, hw''⟩ := hw'
        subst hw''
        have H5 := Lib.hid (HH.out.step0 (below_drewN (Below.refl _ _) nq))
        have C5 := Lib.hid (HC.out.below (below_drewN (Below.refl _ _) nq))
        go_wp2_with fail
        have G5 := Lib.hid (lw_go HWD.out HK.out HD.out H5.out C5.out HA.out HT.out HW.out)
        go_roundg (gk - 1)
        case rel => have := HM.out; simp at this; rw [show gk - 1 = m.length by omega]; exact G5
        case measure => have := HM.out; simp at this; omega
end RdC
end Go.Proofs.YtgbbpliihglijaaGreat
