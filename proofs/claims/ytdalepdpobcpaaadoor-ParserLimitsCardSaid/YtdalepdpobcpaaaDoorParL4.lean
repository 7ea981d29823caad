/- The walk of ParserLimits, six ways. Condition: the reserved words lie as laid. -/
import Derived.Test.YtdalepdpobcpaaaDoorParL3
import Derived.Deep.RegionHeld3
import Derived.Deep.DeepCutAuto
import Derived.BigQuiet
namespace Go.Proofs.YtdalepdpobcpaaaDoor
open Go Go.RowKit
namespace ParL4
open Kit LexM TermM TermI TermU LexE LexF LexG LexP LexQ ParM ParA ParB ParC ParD ParK ParE ParF ParG ParH ParI ParW ParV ParX ParX2 ParX3 ParY ParN ParP ParQ ParAx ParLm ParL3
/-- What the first text gives. -/
theorem outB (n : Nat) (h : n < 40) : (∃ x, n ≤ 8 ∧ wholeF ruleF (txB n) = .good x [] ∧ x.2.length = n) ∨ (8 < n ∧ wholeF ruleF (txB n) = .bad 53 2) := by
  have hc := allB n h
  unfold chkB at hc
  split at hc
  · rename_i t r hO
    obtain ⟨_, _, _, _, rfl⟩ := ParLn.whole_good hO
    simp only [Bool.and_eq_true, decide_eq_true_iff, beq_iff_eq] at hc
    exact Or.inl ⟨t, hc.1, hO, hc.2⟩
  · rename_i a e hO
    simp only [Bool.and_eq_true, decide_eq_true_iff, beq_iff_eq] at hc
    obtain ⟨⟨h1, rfl⟩, rfl⟩ := hc
    exact Or.inr ⟨h1, hO⟩
set_option maxRecDepth 100000 in
set_option maxHeartbeats 1600000 in
theorem limits_no_few (n : Int) (m q : Nat) (w : World) (hw : Wd w) (hn1 : 0 ≤ n) (hn2 : n ≤ 255) (hm : n % 40 = m) (hm0 : m = 0) (hq1 : q ≤ 128) : Calls Tryd.prog 10 #[.int .u8 n, .int .u8 q] w fun e w' => e = .returned (.bool true) ∧ Below w.heap.size w w' := by
  have HA := Lib.hid awake_any
  have hm4 : m < 40 := by omega
  have hq2 : q ≤ 255 := by omega
  have OB := Lib.hid (outB m hm4)
  have TX : Hid ((⟨#[112]⟩ ++ ⟨#[46]⟩ : ByteArray).data.toList = txB m) := Lib.hid (by rw [hm0]; rfl)
  have CB := Lib.hid (fun w1 (h : Wd w1) => by have := crule_any (⟨#[112]⟩ ++ ⟨#[46]⟩) w1 h (by decide); rw [TX.out] at this; exact this)
  generalize wholeF ruleF (txB m) = O at *
  have R2 := Lib.hid (fun w => repeat_any ⟨#[112, 46]⟩ q (by decide) (by omega) w)
  have hz5 : Hid ((bs (rep [112, 46] q)).size ≤ 140737488355328) := Lib.hid (by rw [bs_size, rep_len]; simp; omega)
  have CR := Lib.hid (fun w1 (h : Wd w1) => by have := parse_any (bs (rep [112, 46] q)) w1 h hz5.out; rw [bs_toList] at this; exact this)
  have OR := Lib.hid (allR q (by omega))
  have CR2 : Hid (∀ w1, Wd w1 → Calls Tryd.prog 12 #[.string (bs (rep [112, 46] q))] w1 (WdsR w1 (wholeF (descF 129 []) (txR q)))) := CR
  generalize wholeF (descF 129 []) (txR q) = P at *
  have R2' : Hid (∀ w, Calls Tryd.prog 25 #[.string ⟨#[112, 46]⟩, .int .i64 q] w fun e w' => e = .returned (.string (bs (rep [112, 46] q))) ∧ w = w') := R2
  clear CR R2 hz5
  generalize bs (rep [112, 46] q) = S2 at *
  subst hm0
  have qi1 : (q : Int) ≤ 255 := by omega
  have qi0 : 0 ≤ (q : Int) := by omega
  have qi2 : (q : Int) ≤ 128 := by omega
  go_enter Tryd.func10, Tryd.ntmps10
  go_wp2_with fail
  refine (CB.out _ hw).mono ?_
  rintro e w1 (⟨x, pp, pc, qq, qc, hO, rfl, hS, hB⟩ | ⟨a, er, hO, rfl, hB⟩)
  · have B1 := Lib.hid hB
    have hl : x.2.length = 0 := by
      rcases OB.out with ⟨x', h1, h2, h3⟩ | ⟨h1, h2⟩
      · rw [hO] at h2; injection h2 with h2 _; rw [h2]; exact h3
      · rw [hO] at h2; cases h2
    rw [hl]
    clear hO hS hB OB CB TX hl
    generalize x.1.nm = xn at *
    generalize x.1.args.length = xa at *
    go_upto_region 11 with fail
    have HB4 := Lib.hid (next0 B1.out (below_alloc w1 (.cells #[.string xn, .slice pp xa pc, .slice qq 0 qc] 34)))
    generalize (w1.alloc (.cells #[.string xn, .slice pp xa pc, .slice qq 0 qc] 34)) = W4 at *
    go_wp2_with fail
    refine (R2'.out _).mono ?_
    rintro e w' ⟨rfl, rfl⟩
    go_wp2_with fail
    refine (CR2.out _ (hw.below HB4.out hw.1)).mono ?_
    rintro e w5 (⟨l, lp, lc, hO, rfl, hS, hB⟩ | ⟨a, er, hO, rfl, hB⟩)
    · have B5 := Lib.hid (next0 HB4.out hB)
      have hl : l.length = q := by
        have h := OR.out
        rw [hO, if_pos (by omega)] at h
        injection h with h _
        rw [h, List.length_replicate]
      rw [hl]
      clear hO hS hB OR hl
      have TA := Lib.hid (fun w4 (g : Below w5.heap.size w5 w4) => HA.out w4 ((hw.below B5.out hw.1).below g (Nat.lt_of_lt_of_le hw.1 B5.out.size)))
      clear CR2 HA
      go_wp2_with fail
      refine (TA.out _ (Below.refl _ _)).mono ?_
      rintro e w6 ⟨rfl, g6⟩
      have B6 := Lib.hid (next0 B5.out g6)
      clear g6
      go_wp2_with fail
      go_ret
      exact ⟨rfl, B6.out⟩
    · exfalso
      have h := OR.out
      rw [hO, if_pos (by omega)] at h
      cases h
  · exfalso
    rcases OB.out with ⟨x', h1, h2, h3⟩ | ⟨h1, h2⟩
    · rw [hO] at h2; cases h2
    · omega
set_option maxRecDepth 100000 in
set_option maxHeartbeats 1600000 in
theorem limits_no_many (n : Int) (m q : Nat) (w : World) (hw : Wd w) (hn1 : 0 ≤ n) (hn2 : n ≤ 255) (hm : n % 40 = m) (hm0 : m = 0) (hq1 : 129 ≤ q) (hq2 : q ≤ 255) : Calls Tryd.prog 10 #[.int .u8 n, .int .u8 q] w fun e w' => e = .returned (.bool true) ∧ Below w.heap.size w w' := by
  have HA := Lib.hid awake_any
  have hm4 : m < 40 := by omega
  have OB := Lib.hid (outB m hm4)
  have TX : Hid ((⟨#[112]⟩ ++ ⟨#[46]⟩ : ByteArray).data.toList = txB m) := Lib.hid (by rw [hm0]; rfl)
  have CB := Lib.hid (fun w1 (h : Wd w1) => by have := crule_any (⟨#[112]⟩ ++ ⟨#[46]⟩) w1 h (by decide); rw [TX.out] at this; exact this)
  generalize wholeF ruleF (txB m) = O at *
  have R2 := Lib.hid (fun w => repeat_any ⟨#[112, 46]⟩ q (by decide) (by omega) w)
  have hz5 : Hid ((bs (rep [112, 46] q)).size ≤ 140737488355328) := Lib.hid (by rw [bs_size, rep_len]; simp; omega)
  have CR := Lib.hid (fun w1 (h : Wd w1) => by have := parse_any (bs (rep [112, 46] q)) w1 h hz5.out; rw [bs_toList] at this; exact this)
  have OR := Lib.hid (allR q (by omega))
  have CR2 : Hid (∀ w1, Wd w1 → Calls Tryd.prog 12 #[.string (bs (rep [112, 46] q))] w1 (WdsR w1 (wholeF (descF 129 []) (txR q)))) := CR
  generalize wholeF (descF 129 []) (txR q) = P at *
  have R2' : Hid (∀ w, Calls Tryd.prog 25 #[.string ⟨#[112, 46]⟩, .int .i64 q] w fun e w' => e = .returned (.string (bs (rep [112, 46] q))) ∧ w = w') := R2
  clear CR R2 hz5
  generalize bs (rep [112, 46] q) = S2 at *
  subst hm0
  have qi1 : (q : Int) ≤ 255 := by omega
  have qi0 : 0 ≤ (q : Int) := by omega
  have qi2 : 129 ≤ (q : Int) := by omega
  go_enter Tryd.func10, Tryd.ntmps10
  go_wp2_with fail
  refine (CB.out _ hw).mono ?_
  rintro e w1 (⟨x, pp, pc, qq, qc, hO, rfl, hS, hB⟩ | ⟨a, er, hO, rfl, hB⟩)
  · have B1 := Lib.hid hB
    have hl : x.2.length = 0 := by
      rcases OB.out with ⟨x', h1, h2, h3⟩ | ⟨h1, h2⟩
      · rw [hO] at h2; injection h2 with h2 _; rw [h2]; exact h3
      · rw [hO] at h2; cases h2
    rw [hl]
    clear hO hS hB OB CB TX hl
    generalize x.1.nm = xn at *
    generalize x.1.args.length = xa at *
    go_upto_region 11 with fail
    have HB4 := Lib.hid (next0 B1.out (below_alloc w1 (.cells #[.string xn, .slice pp xa pc, .slice qq 0 qc] 34)))
    generalize (w1.alloc (.cells #[.string xn, .slice pp xa pc, .slice qq 0 qc] 34)) = W4 at *
    go_wp2_with fail
    refine (R2'.out _).mono ?_
    rintro e w' ⟨rfl, rfl⟩
    go_wp2_with fail
    refine (CR2.out _ (hw.below HB4.out hw.1)).mono ?_
    rintro e w5 (⟨l, lp, lc, hO, rfl, hS, hB⟩ | ⟨a, er, hO, rfl, hB⟩)
    · exfalso
      have h := OR.out
      rw [hO, if_neg (by omega)] at h
      cases h
    · have B5 := Lib.hid (next0 HB4.out hB)
      obtain ⟨e1, e2⟩ : a = 256 ∧ er = 2 := by
        have h := OR.out
        rw [hO, if_neg (by omega)] at h
        injection h with h1 h2
        exact ⟨h1, h2⟩
      subst e1 e2
      clear hO hB OR
      have TA := Lib.hid (fun w4 (g : Below w5.heap.size w5 w4) => HA.out w4 ((hw.below B5.out hw.1).below g (Nat.lt_of_lt_of_le hw.1 B5.out.size)))
      clear CR2 HA
      go_wp2_with fail
      refine (TA.out _ (Below.refl _ _)).mono ?_
      rintro e w6 ⟨rfl, g6⟩
      have B6 := Lib.hid (next0 B5.out g6)
      clear g6
      go_wp2_with fail
      go_ret
      exact ⟨rfl, B6.out⟩
  · exfalso
    rcases OB.out with ⟨x', h1, h2, h3⟩ | ⟨h1, h2⟩
    · rw [hO] at h2; cases h2
    · omega
set_option maxRecDepth 100000 in
set_option maxHeartbeats 1600000 in
theorem limits_few_few (n : Int) (m q : Nat) (w : World) (hw : Wd w) (hn1 : 0 ≤ n) (hn2 : n ≤ 255) (hm : n % 40 = m) (h1 : 1 ≤ m) (h8 : m ≤ 8) (hq1 : q ≤ 128) : Calls Tryd.prog 10 #[.int .u8 n, .int .u8 q] w fun e w' => e = .returned (.bool true) ∧ Below w.heap.size w w' := by
  have HA := Lib.hid awake_any
  have hm4 : m < 40 := by omega
  have hq2 : q ≤ 255 := by omega
  have OB := Lib.hid (outB m hm4)
  have R1 := Lib.hid (fun w => repeat_any ⟨#[113, 32, 97, 110, 100, 32]⟩ (m - 1) (by decide) (by omega) w)
  have hz1 : (bs (rep [113, 32, 97, 110, 100, 32] (m - 1))).size ≤ 300 := by rw [bs_size, rep_len]; simp; omega
  have hz2 : (⟨#[112, 32, 105, 102, 32]⟩ ++ bs (rep [113, 32, 97, 110, 100, 32] (m - 1))).size ≤ 305 := by rw [ByteArray.size_append]; have : (⟨#[112, 32, 105, 102, 32]⟩ : ByteArray).size = 5 := rfl; omega
  have hz3 : (⟨#[112, 32, 105, 102, 32]⟩ ++ bs (rep [113, 32, 97, 110, 100, 32] (m - 1)) ++ ⟨#[113]⟩).size ≤ 306 := by rw [ByteArray.size_append]; have : (⟨#[113]⟩ : ByteArray).size = 1 := rfl; omega
  have hz4 : Hid ((⟨#[112, 32, 105, 102, 32]⟩ ++ bs (rep [113, 32, 97, 110, 100, 32] (m - 1)) ++ ⟨#[113]⟩ ++ ⟨#[46]⟩).size ≤ 140737488355328) := Lib.hid (by rw [ByteArray.size_append]; have : (⟨#[46]⟩ : ByteArray).size = 1 := rfl; omega)
  have TX : Hid ((⟨#[112, 32, 105, 102, 32]⟩ ++ bs (rep [113, 32, 97, 110, 100, 32] (m - 1)) ++ ⟨#[113]⟩ ++ ⟨#[46]⟩).data.toList = txB m) := Lib.hid (by unfold txB; rw [if_neg (by omega)]; simp [bs])
  have CB := Lib.hid (fun w1 (h : Wd w1) => by have := crule_any (⟨#[112, 32, 105, 102, 32]⟩ ++ bs (rep [113, 32, 97, 110, 100, 32] (m - 1)) ++ ⟨#[113]⟩ ++ ⟨#[46]⟩) w1 h hz4.out; rw [TX.out] at this; exact this)
  generalize wholeF ruleF (txB m) = O at *
  have R1' : Hid (∀ w, Calls Tryd.prog 25 #[.string ⟨#[113, 32, 97, 110, 100, 32]⟩, .int .i64 ((m : Int) - 1)] w fun e w' => e = .returned (.string (bs (rep [113, 32, 97, 110, 100, 32] (m - 1)))) ∧ w = w') := Lib.hid (by have e : (m : Int) - 1 = ((m - 1 : Nat) : Int) := (by omega); rw [e]; exact R1.out)
  clear R1
  generalize bs (rep [113, 32, 97, 110, 100, 32] (m - 1)) = S1 at *
  have R2 := Lib.hid (fun w => repeat_any ⟨#[112, 46]⟩ q (by decide) (by omega) w)
  have hz5 : Hid ((bs (rep [112, 46] q)).size ≤ 140737488355328) := Lib.hid (by rw [bs_size, rep_len]; simp; omega)
  have CR := Lib.hid (fun w1 (h : Wd w1) => by have := parse_any (bs (rep [112, 46] q)) w1 h hz5.out; rw [bs_toList] at this; exact this)
  have OR := Lib.hid (allR q (by omega))
  have CR2 : Hid (∀ w1, Wd w1 → Calls Tryd.prog 12 #[.string (bs (rep [112, 46] q))] w1 (WdsR w1 (wholeF (descF 129 []) (txR q)))) := CR
  generalize wholeF (descF 129 []) (txR q) = P at *
  have R2' : Hid (∀ w, Calls Tryd.prog 25 #[.string ⟨#[112, 46]⟩, .int .i64 q] w fun e w' => e = .returned (.string (bs (rep [112, 46] q))) ∧ w = w') := R2
  clear CR R2 hz5
  generalize bs (rep [112, 46] q) = S2 at *
  have mi1 : 1 ≤ (m : Int) := by omega
  have mi2 : (m : Int) ≤ 8 := by omega
  have qi1 : (q : Int) ≤ 255 := by omega
  have qi0 : 0 ≤ (q : Int) := by omega
  have qi2 : (q : Int) ≤ 128 := by omega
  go_enter Tryd.func10, Tryd.ntmps10
  go_wp2_with fail
  refine (R1'.out _).mono ?_
  rintro e w' ⟨rfl, rfl⟩
  go_wp2_with fail
  refine (CB.out _ hw).mono ?_
  rintro e w1 (⟨x, pp, pc, qq, qc, hO, rfl, hS, hB⟩ | ⟨a, er, hO, rfl, hB⟩)
  · have B1 := Lib.hid hB
    have hl : x.2.length = m := by
      rcases OB.out with ⟨x', h1, h2, h3⟩ | ⟨h1, h2⟩
      · rw [hO] at h2; injection h2 with h2 _; rw [h2]; exact h3
      · rw [hO] at h2; cases h2
    rw [hl]
    clear hO hS hB OB CB TX hl
    generalize x.1.nm = xn at *
    generalize x.1.args.length = xa at *
    go_upto_region 11 with fail
    have HB4 := Lib.hid (next0 B1.out (below_alloc w1 (.cells #[.string xn, .slice pp xa pc, .slice qq m qc] 34)))
    generalize (w1.alloc (.cells #[.string xn, .slice pp xa pc, .slice qq m qc] 34)) = W4 at *
    go_wp2_with fail
    refine (R2'.out _).mono ?_
    rintro e w' ⟨rfl, rfl⟩
    go_wp2_with fail
    refine (CR2.out _ (hw.below HB4.out hw.1)).mono ?_
    rintro e w5 (⟨l, lp, lc, hO, rfl, hS, hB⟩ | ⟨a, er, hO, rfl, hB⟩)
    · have B5 := Lib.hid (next0 HB4.out hB)
      have hl : l.length = q := by
        have h := OR.out
        rw [hO, if_pos (by omega)] at h
        injection h with h _
        rw [h, List.length_replicate]
      rw [hl]
      clear hO hS hB OR hl
      have TA := Lib.hid (fun w4 (g : Below w5.heap.size w5 w4) => HA.out w4 ((hw.below B5.out hw.1).below g (Nat.lt_of_lt_of_le hw.1 B5.out.size)))
      clear CR2 HA
      go_wp2_with fail
      refine (TA.out _ (Below.refl _ _)).mono ?_
      rintro e w6 ⟨rfl, g6⟩
      have B6 := Lib.hid (next0 B5.out g6)
      clear g6
      go_wp2_with fail
      go_ret
      exact ⟨rfl, B6.out⟩
    · exfalso
      have h := OR.out
      rw [hO, if_pos (by omega)] at h
      cases h
  · exfalso
    rcases OB.out with ⟨x', h1, h2, h3⟩ | ⟨h1, h2⟩
    · rw [hO] at h2; cases h2
    · omega
set_option maxRecDepth 100000 in
set_option maxHeartbeats 1600000 in
theorem limits_few_many (n : Int) (m q : Nat) (w : World) (hw : Wd w) (hn1 : 0 ≤ n) (hn2 : n ≤ 255) (hm : n % 40 = m) (h1 : 1 ≤ m) (h8 : m ≤ 8) (hq1 : 129 ≤ q) (hq2 : q ≤ 255) : Calls Tryd.prog 10 #[.int .u8 n, .int .u8 q] w fun e w' => e = .returned (.bool true) ∧ Below w.heap.size w w' := by
  have HA := Lib.hid awake_any
  have hm4 : m < 40 := by omega
  have OB := Lib.hid (outB m hm4)
  have R1 := Lib.hid (fun w => repeat_any ⟨#[113, 32, 97, 110, 100, 32]⟩ (m - 1) (by decide) (by omega) w)
  have hz1 : (bs (rep [113, 32, 97, 110, 100, 32] (m - 1))).size ≤ 300 := by rw [bs_size, rep_len]; simp; omega
  have hz2 : (⟨#[112, 32, 105, 102, 32]⟩ ++ bs (rep [113, 32, 97, 110, 100, 32] (m - 1))).size ≤ 305 := by rw [ByteArray.size_append]; have : (⟨#[112, 32, 105, 102, 32]⟩ : ByteArray).size = 5 := rfl; omega
  have hz3 : (⟨#[112, 32, 105, 102, 32]⟩ ++ bs (rep [113, 32, 97, 110, 100, 32] (m - 1)) ++ ⟨#[113]⟩).size ≤ 306 := by rw [ByteArray.size_append]; have : (⟨#[113]⟩ : ByteArray).size = 1 := rfl; omega
  have hz4 : Hid ((⟨#[112, 32, 105, 102, 32]⟩ ++ bs (rep [113, 32, 97, 110, 100, 32] (m - 1)) ++ ⟨#[113]⟩ ++ ⟨#[46]⟩).size ≤ 140737488355328) := Lib.hid (by rw [ByteArray.size_append]; have : (⟨#[46]⟩ : ByteArray).size = 1 := rfl; omega)
  have TX : Hid ((⟨#[112, 32, 105, 102, 32]⟩ ++ bs (rep [113, 32, 97, 110, 100, 32] (m - 1)) ++ ⟨#[113]⟩ ++ ⟨#[46]⟩).data.toList = txB m) := Lib.hid (by unfold txB; rw [if_neg (by omega)]; simp [bs])
  have CB := Lib.hid (fun w1 (h : Wd w1) => by have := crule_any (⟨#[112, 32, 105, 102, 32]⟩ ++ bs (rep [113, 32, 97, 110, 100, 32] (m - 1)) ++ ⟨#[113]⟩ ++ ⟨#[46]⟩) w1 h hz4.out; rw [TX.out] at this; exact this)
  generalize wholeF ruleF (txB m) = O at *
  have R1' : Hid (∀ w, Calls Tryd.prog 25 #[.string ⟨#[113, 32, 97, 110, 100, 32]⟩, .int .i64 ((m : Int) - 1)] w fun e w' => e = .returned (.string (bs (rep [113, 32, 97, 110, 100, 32] (m - 1)))) ∧ w = w') := Lib.hid (by have e : (m : Int) - 1 = ((m - 1 : Nat) : Int) := (by omega); rw [e]; exact R1.out)
  clear R1
  generalize bs (rep [113, 32, 97, 110, 100, 32] (m - 1)) = S1 at *
  have R2 := Lib.hid (fun w => repeat_any ⟨#[112, 46]⟩ q (by decide) (by omega) w)
  have hz5 : Hid ((bs (rep [112, 46] q)).size ≤ 140737488355328) := Lib.hid (by rw [bs_size, rep_len]; simp; omega)
  have CR := Lib.hid (fun w1 (h : Wd w1) => by have := parse_any (bs (rep [112, 46] q)) w1 h hz5.out; rw [bs_toList] at this; exact this)
  have OR := Lib.hid (allR q (by omega))
  have CR2 : Hid (∀ w1, Wd w1 → Calls Tryd.prog 12 #[.string (bs (rep [112, 46] q))] w1 (WdsR w1 (wholeF (descF 129 []) (txR q)))) := CR
  generalize wholeF (descF 129 []) (txR q) = P at *
  have R2' : Hid (∀ w, Calls Tryd.prog 25 #[.string ⟨#[112, 46]⟩, .int .i64 q] w fun e w' => e = .returned (.string (bs (rep [112, 46] q))) ∧ w = w') := R2
  clear CR R2 hz5
  generalize bs (rep [112, 46] q) = S2 at *
  have mi1 : 1 ≤ (m : Int) := by omega
  have mi2 : (m : Int) ≤ 8 := by omega
  have qi1 : (q : Int) ≤ 255 := by omega
  have qi0 : 0 ≤ (q : Int) := by omega
  have qi2 : 129 ≤ (q : Int) := by omega
  go_enter Tryd.func10, Tryd.ntmps10
  go_wp2_with fail
  refine (R1'.out _).mono ?_
  rintro e w' ⟨rfl, rfl⟩
  go_wp2_with fail
  refine (CB.out _ hw).mono ?_
  rintro e w1 (⟨x, pp, pc, qq, qc, hO, rfl, hS, hB⟩ | ⟨a, er, hO, rfl, hB⟩)
  · have B1 := Lib.hid hB
    have hl : x.2.length = m := by
      rcases OB.out with ⟨x', h1, h2, h3⟩ | ⟨h1, h2⟩
      · rw [hO] at h2; injection h2 with h2 _; rw [h2]; exact h3
      · rw [hO] at h2; cases h2
    rw [hl]
    clear hO hS hB OB CB TX hl
    generalize x.1.nm = xn at *
    generalize x.1.args.length = xa at *
    go_upto_region 11 with fail
    have HB4 := Lib.hid (next0 B1.out (below_alloc w1 (.cells #[.string xn, .slice pp xa pc, .slice qq m qc] 34)))
    generalize (w1.alloc (.cells #[.string xn, .slice pp xa pc, .slice qq m qc] 34)) = W4 at *
    go_wp2_with fail
    refine (R2'.out _).mono ?_
    rintro e w' ⟨rfl, rfl⟩
    go_wp2_with fail
    refine (CR2.out _ (hw.below HB4.out hw.1)).mono ?_
    rintro e w5 (⟨l, lp, lc, hO, rfl, hS, hB⟩ | ⟨a, er, hO, rfl, hB⟩)
    · exfalso
      have h := OR.out
      rw [hO, if_neg (by omega)] at h
      cases h
    · have B5 := Lib.hid (next0 HB4.out hB)
      obtain ⟨e1, e2⟩ : a = 256 ∧ er = 2 := by
        have h := OR.out
        rw [hO, if_neg (by omega)] at h
        injection h with h1 h2
        exact ⟨h1, h2⟩
      subst e1 e2
      clear hO hB OR
      have TA := Lib.hid (fun w4 (g : Below w5.heap.size w5 w4) => HA.out w4 ((hw.below B5.out hw.1).below g (Nat.lt_of_lt_of_le hw.1 B5.out.size)))
      clear CR2 HA
      go_wp2_with fail
      refine (TA.out _ (Below.refl _ _)).mono ?_
      rintro e w6 ⟨rfl, g6⟩
      have B6 := Lib.hid (next0 B5.out g6)
      clear g6
      go_wp2_with fail
      go_ret
      exact ⟨rfl, B6.out⟩
  · exfalso
    rcases OB.out with ⟨x', h1, h2, h3⟩ | ⟨h1, h2⟩
    · rw [hO] at h2; cases h2
    · omega
set_option maxRecDepth 100000 in
set_option maxHeartbeats 1600000 in
theorem limits_many_few (n : Int) (m q : Nat) (w : World) (hw : Wd w) (hn1 : 0 ≤ n) (hn2 : n ≤ 255) (hm : n % 40 = m) (h1 : 9 ≤ m) (hm4 : m < 40) (hq1 : q ≤ 128) : Calls Tryd.prog 10 #[.int .u8 n, .int .u8 q] w fun e w' => e = .returned (.bool true) ∧ Below w.heap.size w w' := by
  have HA := Lib.hid awake_any
  have hq2 : q ≤ 255 := by omega
  have OB := Lib.hid (outB m hm4)
  have R1 := Lib.hid (fun w => repeat_any ⟨#[113, 32, 97, 110, 100, 32]⟩ (m - 1) (by decide) (by omega) w)
  have hz1 : (bs (rep [113, 32, 97, 110, 100, 32] (m - 1))).size ≤ 300 := by rw [bs_size, rep_len]; simp; omega
  have hz2 : (⟨#[112, 32, 105, 102, 32]⟩ ++ bs (rep [113, 32, 97, 110, 100, 32] (m - 1))).size ≤ 305 := by rw [ByteArray.size_append]; have : (⟨#[112, 32, 105, 102, 32]⟩ : ByteArray).size = 5 := rfl; omega
  have hz3 : (⟨#[112, 32, 105, 102, 32]⟩ ++ bs (rep [113, 32, 97, 110, 100, 32] (m - 1)) ++ ⟨#[113]⟩).size ≤ 306 := by rw [ByteArray.size_append]; have : (⟨#[113]⟩ : ByteArray).size = 1 := rfl; omega
  have hz4 : Hid ((⟨#[112, 32, 105, 102, 32]⟩ ++ bs (rep [113, 32, 97, 110, 100, 32] (m - 1)) ++ ⟨#[113]⟩ ++ ⟨#[46]⟩).size ≤ 140737488355328) := Lib.hid (by rw [ByteArray.size_append]; have : (⟨#[46]⟩ : ByteArray).size = 1 := rfl; omega)
  have TX : Hid ((⟨#[112, 32, 105, 102, 32]⟩ ++ bs (rep [113, 32, 97, 110, 100, 32] (m - 1)) ++ ⟨#[113]⟩ ++ ⟨#[46]⟩).data.toList = txB m) := Lib.hid (by unfold txB; rw [if_neg (by omega)]; simp [bs])
  have CB := Lib.hid (fun w1 (h : Wd w1) => by have := crule_any (⟨#[112, 32, 105, 102, 32]⟩ ++ bs (rep [113, 32, 97, 110, 100, 32] (m - 1)) ++ ⟨#[113]⟩ ++ ⟨#[46]⟩) w1 h hz4.out; rw [TX.out] at this; exact this)
  generalize wholeF ruleF (txB m) = O at *
  have R1' : Hid (∀ w, Calls Tryd.prog 25 #[.string ⟨#[113, 32, 97, 110, 100, 32]⟩, .int .i64 ((m : Int) - 1)] w fun e w' => e = .returned (.string (bs (rep [113, 32, 97, 110, 100, 32] (m - 1)))) ∧ w = w') := Lib.hid (by have e : (m : Int) - 1 = ((m - 1 : Nat) : Int) := (by omega); rw [e]; exact R1.out)
  clear R1
  generalize bs (rep [113, 32, 97, 110, 100, 32] (m - 1)) = S1 at *
  have R2 := Lib.hid (fun w => repeat_any ⟨#[112, 46]⟩ q (by decide) (by omega) w)
  have hz5 : Hid ((bs (rep [112, 46] q)).size ≤ 140737488355328) := Lib.hid (by rw [bs_size, rep_len]; simp; omega)
  have CR := Lib.hid (fun w1 (h : Wd w1) => by have := parse_any (bs (rep [112, 46] q)) w1 h hz5.out; rw [bs_toList] at this; exact this)
  have OR := Lib.hid (allR q (by omega))
  have CR2 : Hid (∀ w1, Wd w1 → Calls Tryd.prog 12 #[.string (bs (rep [112, 46] q))] w1 (WdsR w1 (wholeF (descF 129 []) (txR q)))) := CR
  generalize wholeF (descF 129 []) (txR q) = P at *
  have R2' : Hid (∀ w, Calls Tryd.prog 25 #[.string ⟨#[112, 46]⟩, .int .i64 q] w fun e w' => e = .returned (.string (bs (rep [112, 46] q))) ∧ w = w') := R2
  clear CR R2 hz5
  generalize bs (rep [112, 46] q) = S2 at *
  have mi1 : 9 ≤ (m : Int) := by omega
  have mi2 : (m : Int) ≤ 39 := by omega
  have qi1 : (q : Int) ≤ 255 := by omega
  have qi0 : 0 ≤ (q : Int) := by omega
  have qi2 : (q : Int) ≤ 128 := by omega
  go_enter Tryd.func10, Tryd.ntmps10
  go_wp2_with fail
  refine (R1'.out _).mono ?_
  rintro e w' ⟨rfl, rfl⟩
  go_wp2_with fail
  refine (CB.out _ hw).mono ?_
  rintro e w1 (⟨x, pp, pc, qq, qc, hO, rfl, hS, hB⟩ | ⟨a, er, hO, rfl, hB⟩)
  · exfalso
    rcases OB.out with ⟨x', h1, h2, h3⟩ | ⟨h1, h2⟩
    · omega
    · rw [hO] at h2; cases h2
  · have B1 := Lib.hid hB
    obtain ⟨e1, e2⟩ : a = 53 ∧ er = 2 := by
      rcases OB.out with ⟨x', h1, h2, h3⟩ | ⟨h1, h2⟩
      · omega
      · rw [hO] at h2; injection h2 with h1 h2; exact ⟨h1, h2⟩
    subst e1 e2
    clear hO hB OB CB TX hz4
    go_upto_region 11 with fail
    have HB4 := Lib.hid (next0 B1.out (below_alloc w1 (.cells #[.string ⟨#[]⟩, .slice none 0 0, .slice none 0 0] 34)))
    generalize (w1.alloc (.cells #[.string ⟨#[]⟩, .slice none 0 0, .slice none 0 0] 34)) = W4 at *
    go_wp2_with fail
    refine (R2'.out _).mono ?_
    rintro e w' ⟨rfl, rfl⟩
    go_wp2_with fail
    refine (CR2.out _ (hw.below HB4.out hw.1)).mono ?_
    rintro e w5 (⟨l, lp, lc, hO, rfl, hS, hB⟩ | ⟨a, er, hO, rfl, hB⟩)
    · have B5 := Lib.hid (next0 HB4.out hB)
      have hl : l.length = q := by
        have h := OR.out
        rw [hO, if_pos (by omega)] at h
        injection h with h _
        rw [h, List.length_replicate]
      rw [hl]
      clear hO hS hB OR hl
      have TA := Lib.hid (fun w4 (g : Below w5.heap.size w5 w4) => HA.out w4 ((hw.below B5.out hw.1).below g (Nat.lt_of_lt_of_le hw.1 B5.out.size)))
      clear CR2 HA
      go_wp2_with fail
      refine (TA.out _ (Below.refl _ _)).mono ?_
      rintro e w6 ⟨rfl, g6⟩
      have B6 := Lib.hid (next0 B5.out g6)
      clear g6
      go_wp2_with fail
      go_ret
      exact ⟨rfl, B6.out⟩
    · exfalso
      have h := OR.out
      rw [hO, if_pos (by omega)] at h
      cases h
set_option maxRecDepth 100000 in
set_option maxHeartbeats 1600000 in
theorem limits_many_many (n : Int) (m q : Nat) (w : World) (hw : Wd w) (hn1 : 0 ≤ n) (hn2 : n ≤ 255) (hm : n % 40 = m) (h1 : 9 ≤ m) (hm4 : m < 40) (hq1 : 129 ≤ q) (hq2 : q ≤ 255) : Calls Tryd.prog 10 #[.int .u8 n, .int .u8 q] w fun e w' => e = .returned (.bool true) ∧ Below w.heap.size w w' := by
  have HA := Lib.hid awake_any
  have OB := Lib.hid (outB m hm4)
  have R1 := Lib.hid (fun w => repeat_any ⟨#[113, 32, 97, 110, 100, 32]⟩ (m - 1) (by decide) (by omega) w)
  have hz1 : (bs (rep [113, 32, 97, 110, 100, 32] (m - 1))).size ≤ 300 := by rw [bs_size, rep_len]; simp; omega
  have hz2 : (⟨#[112, 32, 105, 102, 32]⟩ ++ bs (rep [113, 32, 97, 110, 100, 32] (m - 1))).size ≤ 305 := by rw [ByteArray.size_append]; have : (⟨#[112, 32, 105, 102, 32]⟩ : ByteArray).size = 5 := rfl; omega
  have hz3 : (⟨#[112, 32, 105, 102, 32]⟩ ++ bs (rep [113, 32, 97, 110, 100, 32] (m - 1)) ++ ⟨#[113]⟩).size ≤ 306 := by rw [ByteArray.size_append]; have : (⟨#[113]⟩ : ByteArray).size = 1 := rfl; omega
  have hz4 : Hid ((⟨#[112, 32, 105, 102, 32]⟩ ++ bs (rep [113, 32, 97, 110, 100, 32] (m - 1)) ++ ⟨#[113]⟩ ++ ⟨#[46]⟩).size ≤ 140737488355328) := Lib.hid (by rw [ByteArray.size_append]; have : (⟨#[46]⟩ : ByteArray).size = 1 := rfl; omega)
  have TX : Hid ((⟨#[112, 32, 105, 102, 32]⟩ ++ bs (rep [113, 32, 97, 110, 100, 32] (m - 1)) ++ ⟨#[113]⟩ ++ ⟨#[46]⟩).data.toList = txB m) := Lib.hid (by unfold txB; rw [if_neg (by omega)]; simp [bs])
  have CB := Lib.hid (fun w1 (h : Wd w1) => by have := crule_any (⟨#[112, 32, 105, 102, 32]⟩ ++ bs (rep [113, 32, 97, 110, 100, 32] (m - 1)) ++ ⟨#[113]⟩ ++ ⟨#[46]⟩) w1 h hz4.out; rw [TX.out] at this; exact this)
  generalize wholeF ruleF (txB m) = O at *
  have R1' : Hid (∀ w, Calls Tryd.prog 25 #[.string ⟨#[113, 32, 97, 110, 100, 32]⟩, .int .i64 ((m : Int) - 1)] w fun e w' => e = .returned (.string (bs (rep [113, 32, 97, 110, 100, 32] (m - 1)))) ∧ w = w') := Lib.hid (by have e : (m : Int) - 1 = ((m - 1 : Nat) : Int) := (by omega); rw [e]; exact R1.out)
  clear R1
  generalize bs (rep [113, 32, 97, 110, 100, 32] (m - 1)) = S1 at *
  have R2 := Lib.hid (fun w => repeat_any ⟨#[112, 46]⟩ q (by decide) (by omega) w)
  have hz5 : Hid ((bs (rep [112, 46] q)).size ≤ 140737488355328) := Lib.hid (by rw [bs_size, rep_len]; simp; omega)
  have CR := Lib.hid (fun w1 (h : Wd w1) => by have := parse_any (bs (rep [112, 46] q)) w1 h hz5.out; rw [bs_toList] at this; exact this)
  have OR := Lib.hid (allR q (by omega))
  have CR2 : Hid (∀ w1, Wd w1 → Calls Tryd.prog 12 #[.string (bs (rep [112, 46] q))] w1 (WdsR w1 (wholeF (descF 129 []) (txR q)))) := CR
  generalize wholeF (descF 129 []) (txR q) = P at *
  have R2' : Hid (∀ w, Calls Tryd.prog 25 #[.string ⟨#[112, 46]⟩, .int .i64 q] w fun e w' => e = .returned (.string (bs (rep [112, 46] q))) ∧ w = w') := R2
  clear CR R2 hz5
  generalize bs (rep [112, 46] q) = S2 at *
  have mi1 : 9 ≤ (m : Int) := by omega
  have mi2 : (m : Int) ≤ 39 := by omega
  have qi1 : (q : Int) ≤ 255 := by omega
  have qi0 : 0 ≤ (q : Int) := by omega
  have qi2 : 129 ≤ (q : Int) := by omega
  go_enter Tryd.func10, Tryd.ntmps10
  go_wp2_with fail
  refine (R1'.out _).mono ?_
  rintro e w' ⟨rfl, rfl⟩
  go_wp2_with fail
  refine (CB.out _ hw).mono ?_
  rintro e w1 (⟨x, pp, pc, qq, qc, hO, rfl, hS, hB⟩ | ⟨a, er, hO, rfl, hB⟩)
  · exfalso
    rcases OB.out with ⟨x', h1, h2, h3⟩ | ⟨h1, h2⟩
    · omega
    · rw [hO] at h2; cases h2
  · have B1 := Lib.hid hB
    obtain ⟨e1, e2⟩ : a = 53 ∧ er = 2 := by
      rcases OB.out with ⟨x', h1, h2, h3⟩ | ⟨h1, h2⟩
      · omega
      · rw [hO] at h2; injection h2 with h1 h2; exact ⟨h1, h2⟩
    subst e1 e2
    clear hO hB OB CB TX hz4
    go_upto_region 11 with fail
    have HB4 := Lib.hid (next0 B1.out (below_alloc w1 (.cells #[.string ⟨#[]⟩, .slice none 0 0, .slice none 0 0] 34)))
    generalize (w1.alloc (.cells #[.string ⟨#[]⟩, .slice none 0 0, .slice none 0 0] 34)) = W4 at *
    go_wp2_with fail
    refine (R2'.out _).mono ?_
    rintro e w' ⟨rfl, rfl⟩
    go_wp2_with fail
    refine (CR2.out _ (hw.below HB4.out hw.1)).mono ?_
    rintro e w5 (⟨l, lp, lc, hO, rfl, hS, hB⟩ | ⟨a, er, hO, rfl, hB⟩)
    · exfalso
      have h := OR.out
      rw [hO, if_neg (by omega)] at h
      cases h
    · have B5 := Lib.hid (next0 HB4.out hB)
      obtain ⟨e1, e2⟩ : a = 256 ∧ er = 2 := by
        have h := OR.out
        rw [hO, if_neg (by omega)] at h
        injection h with h1 h2
        exact ⟨h1, h2⟩
      subst e1 e2
      clear hO hB OR
      have TA := Lib.hid (fun w4 (g : Below w5.heap.size w5 w4) => HA.out w4 ((hw.below B5.out hw.1).below g (Nat.lt_of_lt_of_le hw.1 B5.out.size)))
      clear CR2 HA
      go_wp2_with fail
      refine (TA.out _ (Below.refl _ _)).mono ?_
      rintro e w6 ⟨rfl, g6⟩
      have B6 := Lib.hid (next0 B5.out g6)
      clear g6
      go_wp2_with fail
      go_ret
      exact ⟨rfl, B6.out⟩
theorem limits (n c : Int) (w : World) (hw : Wd w) (hn : 0 ≤ n ∧ n ≤ 255) (hc : 0 ≤ c ∧ c ≤ 255) : Calls Tryd.prog 10 #[.int .u8 n, .int .u8 c] w fun e w' => e = .returned (.bool true) ∧ Below w.heap.size w w' := by
  obtain ⟨m, hm⟩ : ∃ m : Nat, n % 40 = m := ⟨(n % 40).toNat, by omega⟩
  obtain ⟨q, rfl⟩ : ∃ q : Nat, c = q := ⟨c.toNat, by omega⟩
  rcases Nat.lt_or_ge q 129 with h4 | h4
  · rcases Nat.eq_zero_or_pos m with h0 | h0
    · exact limits_no_few n m q w hw hn.1 hn.2 hm h0 (by omega)
    · rcases Nat.lt_or_ge m 9 with h5 | h5
      · exact limits_few_few n m q w hw hn.1 hn.2 hm h0 (by omega) (by omega)
      · exact limits_many_few n m q w hw hn.1 hn.2 hm h5 (by omega) (by omega)
  · rcases Nat.eq_zero_or_pos m with h0 | h0
    · exact limits_no_many n m q w hw hn.1 hn.2 hm h0 h4 (by omega)
    · rcases Nat.lt_or_ge m 9 with h5 | h5
      · exact limits_few_many n m q w hw hn.1 hn.2 hm h0 (by omega) h4 (by omega)
      · exact limits_many_many n m q w hw hn.1 hn.2 hm h5 (by omega) h4 (by omega)
end ParL4
end Go.Proofs.YtdalepdpobcpaaaDoor
