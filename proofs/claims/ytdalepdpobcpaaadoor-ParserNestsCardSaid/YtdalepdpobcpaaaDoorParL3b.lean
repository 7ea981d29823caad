/- The walk of ParserNests, six ways. Condition: the reserved words lie as laid. -/
import Derived.Test.YtdalepdpobcpaaaDoorParL3
import Derived.Deep.RegionHeld3
import Derived.Deep.DeepCutAuto
import Derived.BigQuiet
namespace Go.Proofs.YtdalepdpobcpaaaDoor
open Go Go.RowKit
namespace ParL3b
open Kit LexM TermM TermI TermU LexE LexF LexG LexP LexQ ParM ParA ParB ParC ParD ParK ParE ParF ParG ParH ParI ParW ParV ParX ParX2 ParX3 ParY ParN ParP ParQ ParAx ParLm ParL3
set_option maxRecDepth 100000 in
set_option maxHeartbeats 1600000 in
theorem nests_lo_zero (n c : Int) (m q : Nat) (w : World) (hw : Wd w) (hn1 : 0 ≤ n) (hn2 : n ≤ 255) (hc1 : 0 ≤ c) (hc2 : c ≤ 255) (hm : n % 40 = m) (hq : c % 40 = q) (h4 : m < 4) (hq0 : q = 0) : Calls Tryd.prog 9 #[.int .u8 n, .int .u8 c] w fun e w' => e = .returned (.bool true) ∧ Below w.heap.size w w' := by
  have HA := Lib.hid awake_any
  have hm4 : m < 40 := by omega
  have hq40 : q < 40 := by omega
  have R1 := Lib.hid (fun w => repeat_any ⟨#[102, 40]⟩ m (by decide) (by omega) w)
  have R2 := Lib.hid (fun w => repeat_any ⟨#[41]⟩ m (by decide) (by omega) w)
  have hz1 : (bs (rep [102, 40] m)).size ≤ 100 := by rw [bs_size, rep_len]; simp; omega
  have hz2 : (bs (rep [41] m)).size ≤ 100 := by rw [bs_size, rep_len]; simp; omega
  have hz3 : (bs (rep [102, 40] m) ++ ⟨#[97]⟩).size ≤ 101 := by rw [ByteArray.size_append]; have : (⟨#[97]⟩ : ByteArray).size = 1 := rfl; omega
  have hz4 : Hid ((bs (rep [102, 40] m) ++ ⟨#[97]⟩ ++ bs (rep [41] m)).size ≤ 140737488355328) := Lib.hid (by rw [ByteArray.size_append]; omega)
  have TX : Hid ((bs (rep [102, 40] m) ++ ⟨#[97]⟩ ++ bs (rep [41] m)).data.toList = txT (m + 1)) := Lib.hid (by simp [bs, txT])
  have CT := Lib.hid (fun w1 (h : Wd w1) => by have := cterm_any (bs (rep [102, 40] m) ++ ⟨#[97]⟩ ++ bs (rep [41] m)) w1 h hz4.out; rw [TX.out] at this; exact this)
  have OT := Lib.hid (outT m hm4)
  have NM := Lib.hid (fun w => name_any (m + 1) w (by omega))
  generalize wholeF (termF 4) (txT (m + 1)) = O at *
  have R1' : Hid (∀ w, Calls Tryd.prog 25 #[.string ⟨#[102, 40]⟩, .int .i64 m] w fun e w' => e = .returned (.string (bs (rep [102, 40] m))) ∧ w = w') := R1
  have R2' : Hid (∀ w, Calls Tryd.prog 25 #[.string ⟨#[41]⟩, .int .i64 m] w fun e w' => e = .returned (.string (bs (rep [41] m))) ∧ w = w') := R2
  clear R1 R2
  generalize bs (rep [102, 40] m) = S1 at *
  generalize bs (rep [41] m) = S2 at *
  have A1 := Lib.hid (fun w => repeat_any ⟨#[97, 44]⟩ (q - 1) (by decide) (by omega) w)
  have A2 := Lib.hid (fun w => repeat_any ⟨#[97]⟩ (min q 1) (by decide) (by omega) w)
  have az1 : (bs (rep [97, 44] (q - 1))).size ≤ 100 := by rw [bs_size, rep_len]; simp; omega
  have az2 : (bs (rep [97] (min q 1))).size ≤ 100 := by rw [bs_size, rep_len]; simp; omega
  have az3 : (⟨#[112, 40]⟩ ++ bs (rep [97, 44] (q - 1))).size ≤ 102 := by rw [ByteArray.size_append]; have : (⟨#[112, 40]⟩ : ByteArray).size = 2 := rfl; omega
  have az4 : (⟨#[112, 40]⟩ ++ bs (rep [97, 44] (q - 1)) ++ bs (rep [97] (min q 1))).size ≤ 202 := by rw [ByteArray.size_append]; omega
  have az5 : Hid ((⟨#[112, 40]⟩ ++ bs (rep [97, 44] (q - 1)) ++ bs (rep [97] (min q 1)) ++ ⟨#[41, 46]⟩).size ≤ 140737488355328) := Lib.hid (by rw [ByteArray.size_append]; have : (⟨#[41, 46]⟩ : ByteArray).size = 2 := rfl; omega)
  have AX : Hid ((⟨#[112, 40]⟩ ++ bs (rep [97, 44] (q - 1)) ++ bs (rep [97] (min q 1)) ++ ⟨#[41, 46]⟩).data.toList = txA q) := Lib.hid (by simp [bs, txA])
  have CA := Lib.hid (fun w1 (h : Wd w1) => by have := crule_any (⟨#[112, 40]⟩ ++ bs (rep [97, 44] (q - 1)) ++ bs (rep [97] (min q 1)) ++ ⟨#[41, 46]⟩) w1 h az5.out; rw [AX.out] at this; exact this)
  have OA := Lib.hid (outA q hq40)
  generalize wholeF ruleF (txA q) = OR at *
  have A1' : Hid (∀ w, Calls Tryd.prog 25 #[.string ⟨#[97, 44]⟩, .int .i64 (0 : Int)] w fun e w' => e = .returned (.string (bs (rep [97, 44] (q - 1)))) ∧ w = w') := Lib.hid (by have e : (0 : Int) = ((q - 1 : Nat) : Int) := (by omega); rw [e]; exact A1.out)
  have A2' : Hid (∀ w, Calls Tryd.prog 25 #[.string ⟨#[97]⟩, .int .i64 (0 : Int)] w fun e w' => e = .returned (.string (bs (rep [97] (min q 1)))) ∧ w = w') := Lib.hid (by have e : (0 : Int) = ((min q 1 : Nat) : Int) := (by omega); rw [e]; exact A2.out)
  clear A1 A2
  generalize bs (rep [97, 44] (q - 1)) = S3 at *
  generalize bs (rep [97] (min q 1)) = S4 at *
  subst hq0
  go_enter Tryd.func9, Tryd.ntmps9
  go_wp2_with fail
  refine (R1'.out _).mono ?_
  rintro e w' ⟨rfl, rfl⟩
  go_wp2_with fail
  refine (R2'.out _).mono ?_
  rintro e w' ⟨rfl, rfl⟩
  go_wp2_with fail
  refine (CT.out _ hw).mono ?_
  rintro e w1 (⟨t, p, cc, hO, rfl, hS, hn, hB⟩ | ⟨a, er, hO, rfl, hB⟩)
  · have B1 := Lib.hid hB
    have TN : t.nm = if m + 1 = 1 then ⟨#[97]⟩ else ⟨#[102]⟩ := by
      rcases OT.out with ⟨t', _, h1, h2⟩ | ⟨h1, _⟩
      · rw [hO] at h1; injection h1 with h1 _; rw [h1]; exact h2
      · omega
    have NM2 : Hid (∀ w, Calls Tryd.prog 26 #[.int .i64 ((m : Int) + 1)] w fun e w' => e = .returned (.string t.nm) ∧ w = w') := Lib.hid (by rw [TN]; exact NM.out)
    clear hO hS hn hB OT TN NM CT TX hz4
    generalize t.nm = tn at *
    generalize t.args.length = ta at *
    go_upto_region 4 with fail
    go_quiet ((go_at_call 26; exact quiet_eq (NM2.out _)))
    have HB4 := Lib.hid (next0 B1.out (below_drewN (below_alloc w1 (.cells #[.string tn, .slice p ta cc] 31)) nq))
    generalize ((w1.alloc (.cells #[.string tn, .slice p ta cc] 31)).drewN nq) = W4 at *
    clear NM2
    go_wp2_with fail
    refine (A1'.out _).mono ?_
    rintro e w' ⟨rfl, rfl⟩
    go_wp2_with fail
    refine (A2'.out _).mono ?_
    rintro e w' ⟨rfl, rfl⟩
    go_wp2_with fail
    refine (CA.out _ (hw.below HB4.out hw.1)).mono ?_
    rintro e w5 (⟨x, pp, pc, qq, qc, hO, rfl, hS, hB⟩ | ⟨a, er, hO, rfl, hB⟩)
    · exfalso
      rcases OA.out with ⟨x', h1, h2, h3, h4, h5⟩ | ⟨_, h⟩ | ⟨_, h⟩
      · first | omega | (rw [hO] at h3; cases h3)
      · rw [hO] at h; cases h
      · rw [hO] at h; cases h
    · have B5 := Lib.hid (next0 HB4.out hB)
      obtain ⟨e1, e2⟩ : a = 2 ∧ er = 1 := by
        rcases OA.out with ⟨x', h1, h2, h3, h4, h5⟩ | ⟨h1, h⟩ | ⟨h1, h⟩
        · rw [hO] at h3; cases h3
        · first | omega | (rw [hO] at h; injection h with h1 h2; exact ⟨h1, h2⟩)
        · first | omega | (rw [hO] at h; injection h with h1 h2; exact ⟨h1, h2⟩)
      subst e1 e2
      have TA := Lib.hid (fun w4 (g : Below w5.heap.size w5 w4) => HA.out w4 ((hw.below B5.out hw.1).below g (Nat.lt_of_lt_of_le hw.1 B5.out.size)))
      clear hO hB OA CA HA R1' R2' A1' A2'
      go_wp2_with fail
      refine (TA.out _ (below_alloc _ _)).mono ?_
      rintro e w6 ⟨rfl, g6⟩
      have B6 := Lib.hid (next0 (next0 B5.out (below_alloc w5 _)) g6)
      clear g6
      go_wp2_with fail
      go_ret
      exact ⟨rfl, B6.out⟩
  · exfalso
    rcases OT.out with ⟨t', _, h1, h2⟩ | ⟨h1, h2⟩
    · rw [hO] at h1; cases h1
    · omega
set_option maxRecDepth 100000 in
set_option maxHeartbeats 1600000 in
theorem nests_lo_one (n c : Int) (m q : Nat) (w : World) (hw : Wd w) (hn1 : 0 ≤ n) (hn2 : n ≤ 255) (hc1 : 0 ≤ c) (hc2 : c ≤ 255) (hm : n % 40 = m) (hq : c % 40 = q) (h4 : m < 4) (hq0 : q = 1) : Calls Tryd.prog 9 #[.int .u8 n, .int .u8 c] w fun e w' => e = .returned (.bool true) ∧ Below w.heap.size w w' := by
  have HA := Lib.hid awake_any
  have hm4 : m < 40 := by omega
  have hq40 : q < 40 := by omega
  have R1 := Lib.hid (fun w => repeat_any ⟨#[102, 40]⟩ m (by decide) (by omega) w)
  have R2 := Lib.hid (fun w => repeat_any ⟨#[41]⟩ m (by decide) (by omega) w)
  have hz1 : (bs (rep [102, 40] m)).size ≤ 100 := by rw [bs_size, rep_len]; simp; omega
  have hz2 : (bs (rep [41] m)).size ≤ 100 := by rw [bs_size, rep_len]; simp; omega
  have hz3 : (bs (rep [102, 40] m) ++ ⟨#[97]⟩).size ≤ 101 := by rw [ByteArray.size_append]; have : (⟨#[97]⟩ : ByteArray).size = 1 := rfl; omega
  have hz4 : Hid ((bs (rep [102, 40] m) ++ ⟨#[97]⟩ ++ bs (rep [41] m)).size ≤ 140737488355328) := Lib.hid (by rw [ByteArray.size_append]; omega)
  have TX : Hid ((bs (rep [102, 40] m) ++ ⟨#[97]⟩ ++ bs (rep [41] m)).data.toList = txT (m + 1)) := Lib.hid (by simp [bs, txT])
  have CT := Lib.hid (fun w1 (h : Wd w1) => by have := cterm_any (bs (rep [102, 40] m) ++ ⟨#[97]⟩ ++ bs (rep [41] m)) w1 h hz4.out; rw [TX.out] at this; exact this)
  have OT := Lib.hid (outT m hm4)
  have NM := Lib.hid (fun w => name_any (m + 1) w (by omega))
  generalize wholeF (termF 4) (txT (m + 1)) = O at *
  have R1' : Hid (∀ w, Calls Tryd.prog 25 #[.string ⟨#[102, 40]⟩, .int .i64 m] w fun e w' => e = .returned (.string (bs (rep [102, 40] m))) ∧ w = w') := R1
  have R2' : Hid (∀ w, Calls Tryd.prog 25 #[.string ⟨#[41]⟩, .int .i64 m] w fun e w' => e = .returned (.string (bs (rep [41] m))) ∧ w = w') := R2
  clear R1 R2
  generalize bs (rep [102, 40] m) = S1 at *
  generalize bs (rep [41] m) = S2 at *
  have A1 := Lib.hid (fun w => repeat_any ⟨#[97, 44]⟩ (q - 1) (by decide) (by omega) w)
  have A2 := Lib.hid (fun w => repeat_any ⟨#[97]⟩ (min q 1) (by decide) (by omega) w)
  have az1 : (bs (rep [97, 44] (q - 1))).size ≤ 100 := by rw [bs_size, rep_len]; simp; omega
  have az2 : (bs (rep [97] (min q 1))).size ≤ 100 := by rw [bs_size, rep_len]; simp; omega
  have az3 : (⟨#[112, 40]⟩ ++ bs (rep [97, 44] (q - 1))).size ≤ 102 := by rw [ByteArray.size_append]; have : (⟨#[112, 40]⟩ : ByteArray).size = 2 := rfl; omega
  have az4 : (⟨#[112, 40]⟩ ++ bs (rep [97, 44] (q - 1)) ++ bs (rep [97] (min q 1))).size ≤ 202 := by rw [ByteArray.size_append]; omega
  have az5 : Hid ((⟨#[112, 40]⟩ ++ bs (rep [97, 44] (q - 1)) ++ bs (rep [97] (min q 1)) ++ ⟨#[41, 46]⟩).size ≤ 140737488355328) := Lib.hid (by rw [ByteArray.size_append]; have : (⟨#[41, 46]⟩ : ByteArray).size = 2 := rfl; omega)
  have AX : Hid ((⟨#[112, 40]⟩ ++ bs (rep [97, 44] (q - 1)) ++ bs (rep [97] (min q 1)) ++ ⟨#[41, 46]⟩).data.toList = txA q) := Lib.hid (by simp [bs, txA])
  have CA := Lib.hid (fun w1 (h : Wd w1) => by have := crule_any (⟨#[112, 40]⟩ ++ bs (rep [97, 44] (q - 1)) ++ bs (rep [97] (min q 1)) ++ ⟨#[41, 46]⟩) w1 h az5.out; rw [AX.out] at this; exact this)
  have OA := Lib.hid (outA q hq40)
  generalize wholeF ruleF (txA q) = OR at *
  have A1' : Hid (∀ w, Calls Tryd.prog 25 #[.string ⟨#[97, 44]⟩, .int .i64 (0 : Int)] w fun e w' => e = .returned (.string (bs (rep [97, 44] (q - 1)))) ∧ w = w') := Lib.hid (by have e : (0 : Int) = ((q - 1 : Nat) : Int) := (by omega); rw [e]; exact A1.out)
  have A2' : Hid (∀ w, Calls Tryd.prog 25 #[.string ⟨#[97]⟩, .int .i64 (1 : Int)] w fun e w' => e = .returned (.string (bs (rep [97] (min q 1)))) ∧ w = w') := Lib.hid (by have e : (1 : Int) = ((min q 1 : Nat) : Int) := (by omega); rw [e]; exact A2.out)
  clear A1 A2
  generalize bs (rep [97, 44] (q - 1)) = S3 at *
  generalize bs (rep [97] (min q 1)) = S4 at *
  subst hq0
  go_enter Tryd.func9, Tryd.ntmps9
  go_wp2_with fail
  refine (R1'.out _).mono ?_
  rintro e w' ⟨rfl, rfl⟩
  go_wp2_with fail
  refine (R2'.out _).mono ?_
  rintro e w' ⟨rfl, rfl⟩
  go_wp2_with fail
  refine (CT.out _ hw).mono ?_
  rintro e w1 (⟨t, p, cc, hO, rfl, hS, hn, hB⟩ | ⟨a, er, hO, rfl, hB⟩)
  · have B1 := Lib.hid hB
    have TN : t.nm = if m + 1 = 1 then ⟨#[97]⟩ else ⟨#[102]⟩ := by
      rcases OT.out with ⟨t', _, h1, h2⟩ | ⟨h1, _⟩
      · rw [hO] at h1; injection h1 with h1 _; rw [h1]; exact h2
      · omega
    have NM2 : Hid (∀ w, Calls Tryd.prog 26 #[.int .i64 ((m : Int) + 1)] w fun e w' => e = .returned (.string t.nm) ∧ w = w') := Lib.hid (by rw [TN]; exact NM.out)
    clear hO hS hn hB OT TN NM CT TX hz4
    generalize t.nm = tn at *
    generalize t.args.length = ta at *
    go_upto_region 4 with fail
    go_quiet ((go_at_call 26; exact quiet_eq (NM2.out _)))
    have HB4 := Lib.hid (next0 B1.out (below_drewN (below_alloc w1 (.cells #[.string tn, .slice p ta cc] 31)) nq))
    generalize ((w1.alloc (.cells #[.string tn, .slice p ta cc] 31)).drewN nq) = W4 at *
    clear NM2
    go_wp2_with fail
    refine (A1'.out _).mono ?_
    rintro e w' ⟨rfl, rfl⟩
    go_wp2_with fail
    refine (A2'.out _).mono ?_
    rintro e w' ⟨rfl, rfl⟩
    go_wp2_with fail
    refine (CA.out _ (hw.below HB4.out hw.1)).mono ?_
    rintro e w5 (⟨x, pp, pc, qq, qc, hO, rfl, hS, hB⟩ | ⟨a, er, hO, rfl, hB⟩)
    · have B5 := Lib.hid (next0 HB4.out hB)
      obtain ⟨h3, h4⟩ : x.1.nm = ⟨#[112]⟩ ∧ x.1.args.length = 1 := by
        rcases OA.out with ⟨x', h1, h2, h3, h4, h5⟩ | ⟨_, h⟩ | ⟨_, h⟩
        · rw [hO] at h3; injection h3 with h3 _; rw [h3]; exact ⟨h4, h5⟩
        · rw [hO] at h; cases h
        · rw [hO] at h; cases h
      rw [h3, h4]
      have TA := Lib.hid (fun w4 (g : Below w5.heap.size w5 w4) => HA.out w4 ((hw.below B5.out hw.1).below g (Nat.lt_of_lt_of_le hw.1 B5.out.size)))
      clear hO hS hB OA h3 h4 CA HA R1' R2' A1' A2'
      generalize x.2.length = xb at *
      go_wp2_with fail
      refine (TA.out _ (below_alloc _ _)).mono ?_
      rintro e w6 ⟨rfl, g6⟩
      have B6 := Lib.hid (next0 (next0 B5.out (below_alloc w5 _)) g6)
      clear g6
      go_wp2_with fail
      go_ret
      exact ⟨rfl, B6.out⟩
    · exfalso
      rcases OA.out with ⟨x', h1, h2, h3, h4, h5⟩ | ⟨h1, h⟩ | ⟨h1, h⟩
      · rw [hO] at h3; cases h3
      · omega
      · omega
  · exfalso
    rcases OT.out with ⟨t', _, h1, h2⟩ | ⟨h1, h2⟩
    · rw [hO] at h1; cases h1
    · omega
set_option maxRecDepth 100000 in
set_option maxHeartbeats 1600000 in
theorem nests_lo_few (n c : Int) (m q : Nat) (w : World) (hw : Wd w) (hn1 : 0 ≤ n) (hn2 : n ≤ 255) (hc1 : 0 ≤ c) (hc2 : c ≤ 255) (hm : n % 40 = m) (hq : c % 40 = q) (h4 : m < 4) (hq1 : 2 ≤ q) (hq4 : q ≤ 4) : Calls Tryd.prog 9 #[.int .u8 n, .int .u8 c] w fun e w' => e = .returned (.bool true) ∧ Below w.heap.size w w' := by
  have HA := Lib.hid awake_any
  have hm4 : m < 40 := by omega
  have hq40 : q < 40 := by omega
  have R1 := Lib.hid (fun w => repeat_any ⟨#[102, 40]⟩ m (by decide) (by omega) w)
  have R2 := Lib.hid (fun w => repeat_any ⟨#[41]⟩ m (by decide) (by omega) w)
  have hz1 : (bs (rep [102, 40] m)).size ≤ 100 := by rw [bs_size, rep_len]; simp; omega
  have hz2 : (bs (rep [41] m)).size ≤ 100 := by rw [bs_size, rep_len]; simp; omega
  have hz3 : (bs (rep [102, 40] m) ++ ⟨#[97]⟩).size ≤ 101 := by rw [ByteArray.size_append]; have : (⟨#[97]⟩ : ByteArray).size = 1 := rfl; omega
  have hz4 : Hid ((bs (rep [102, 40] m) ++ ⟨#[97]⟩ ++ bs (rep [41] m)).size ≤ 140737488355328) := Lib.hid (by rw [ByteArray.size_append]; omega)
  have TX : Hid ((bs (rep [102, 40] m) ++ ⟨#[97]⟩ ++ bs (rep [41] m)).data.toList = txT (m + 1)) := Lib.hid (by simp [bs, txT])
  have CT := Lib.hid (fun w1 (h : Wd w1) => by have := cterm_any (bs (rep [102, 40] m) ++ ⟨#[97]⟩ ++ bs (rep [41] m)) w1 h hz4.out; rw [TX.out] at this; exact this)
  have OT := Lib.hid (outT m hm4)
  have NM := Lib.hid (fun w => name_any (m + 1) w (by omega))
  generalize wholeF (termF 4) (txT (m + 1)) = O at *
  have R1' : Hid (∀ w, Calls Tryd.prog 25 #[.string ⟨#[102, 40]⟩, .int .i64 m] w fun e w' => e = .returned (.string (bs (rep [102, 40] m))) ∧ w = w') := R1
  have R2' : Hid (∀ w, Calls Tryd.prog 25 #[.string ⟨#[41]⟩, .int .i64 m] w fun e w' => e = .returned (.string (bs (rep [41] m))) ∧ w = w') := R2
  clear R1 R2
  generalize bs (rep [102, 40] m) = S1 at *
  generalize bs (rep [41] m) = S2 at *
  have A1 := Lib.hid (fun w => repeat_any ⟨#[97, 44]⟩ (q - 1) (by decide) (by omega) w)
  have A2 := Lib.hid (fun w => repeat_any ⟨#[97]⟩ (min q 1) (by decide) (by omega) w)
  have az1 : (bs (rep [97, 44] (q - 1))).size ≤ 100 := by rw [bs_size, rep_len]; simp; omega
  have az2 : (bs (rep [97] (min q 1))).size ≤ 100 := by rw [bs_size, rep_len]; simp; omega
  have az3 : (⟨#[112, 40]⟩ ++ bs (rep [97, 44] (q - 1))).size ≤ 102 := by rw [ByteArray.size_append]; have : (⟨#[112, 40]⟩ : ByteArray).size = 2 := rfl; omega
  have az4 : (⟨#[112, 40]⟩ ++ bs (rep [97, 44] (q - 1)) ++ bs (rep [97] (min q 1))).size ≤ 202 := by rw [ByteArray.size_append]; omega
  have az5 : Hid ((⟨#[112, 40]⟩ ++ bs (rep [97, 44] (q - 1)) ++ bs (rep [97] (min q 1)) ++ ⟨#[41, 46]⟩).size ≤ 140737488355328) := Lib.hid (by rw [ByteArray.size_append]; have : (⟨#[41, 46]⟩ : ByteArray).size = 2 := rfl; omega)
  have AX : Hid ((⟨#[112, 40]⟩ ++ bs (rep [97, 44] (q - 1)) ++ bs (rep [97] (min q 1)) ++ ⟨#[41, 46]⟩).data.toList = txA q) := Lib.hid (by simp [bs, txA])
  have CA := Lib.hid (fun w1 (h : Wd w1) => by have := crule_any (⟨#[112, 40]⟩ ++ bs (rep [97, 44] (q - 1)) ++ bs (rep [97] (min q 1)) ++ ⟨#[41, 46]⟩) w1 h az5.out; rw [AX.out] at this; exact this)
  have OA := Lib.hid (outA q hq40)
  generalize wholeF ruleF (txA q) = OR at *
  have A1' : Hid (∀ w, Calls Tryd.prog 25 #[.string ⟨#[97, 44]⟩, .int .i64 ((q : Int) - 1)] w fun e w' => e = .returned (.string (bs (rep [97, 44] (q - 1)))) ∧ w = w') := Lib.hid (by have e : ((q : Int) - 1) = ((q - 1 : Nat) : Int) := (by omega); rw [e]; exact A1.out)
  have A2' : Hid (∀ w, Calls Tryd.prog 25 #[.string ⟨#[97]⟩, .int .i64 (1 : Int)] w fun e w' => e = .returned (.string (bs (rep [97] (min q 1)))) ∧ w = w') := Lib.hid (by have e : (1 : Int) = ((min q 1 : Nat) : Int) := (by omega); rw [e]; exact A2.out)
  clear A1 A2
  generalize bs (rep [97, 44] (q - 1)) = S3 at *
  generalize bs (rep [97] (min q 1)) = S4 at *
  have qi1 : 2 ≤ (q : Int) := by omega
  have qi2 : (q : Int) ≤ 4 := by omega
  go_enter Tryd.func9, Tryd.ntmps9
  go_wp2_with fail
  refine (R1'.out _).mono ?_
  rintro e w' ⟨rfl, rfl⟩
  go_wp2_with fail
  refine (R2'.out _).mono ?_
  rintro e w' ⟨rfl, rfl⟩
  go_wp2_with fail
  refine (CT.out _ hw).mono ?_
  rintro e w1 (⟨t, p, cc, hO, rfl, hS, hn, hB⟩ | ⟨a, er, hO, rfl, hB⟩)
  · have B1 := Lib.hid hB
    have TN : t.nm = if m + 1 = 1 then ⟨#[97]⟩ else ⟨#[102]⟩ := by
      rcases OT.out with ⟨t', _, h1, h2⟩ | ⟨h1, _⟩
      · rw [hO] at h1; injection h1 with h1 _; rw [h1]; exact h2
      · omega
    have NM2 : Hid (∀ w, Calls Tryd.prog 26 #[.int .i64 ((m : Int) + 1)] w fun e w' => e = .returned (.string t.nm) ∧ w = w') := Lib.hid (by rw [TN]; exact NM.out)
    clear hO hS hn hB OT TN NM CT TX hz4
    generalize t.nm = tn at *
    generalize t.args.length = ta at *
    go_upto_region 4 with fail
    go_quiet ((go_at_call 26; exact quiet_eq (NM2.out _)))
    have HB4 := Lib.hid (next0 B1.out (below_drewN (below_alloc w1 (.cells #[.string tn, .slice p ta cc] 31)) nq))
    generalize ((w1.alloc (.cells #[.string tn, .slice p ta cc] 31)).drewN nq) = W4 at *
    clear NM2
    go_wp2_with fail
    refine (A1'.out _).mono ?_
    rintro e w' ⟨rfl, rfl⟩
    go_wp2_with fail
    refine (A2'.out _).mono ?_
    rintro e w' ⟨rfl, rfl⟩
    go_wp2_with fail
    refine (CA.out _ (hw.below HB4.out hw.1)).mono ?_
    rintro e w5 (⟨x, pp, pc, qq, qc, hO, rfl, hS, hB⟩ | ⟨a, er, hO, rfl, hB⟩)
    · have B5 := Lib.hid (next0 HB4.out hB)
      obtain ⟨h3, h4⟩ : x.1.nm = ⟨#[112]⟩ ∧ x.1.args.length = q := by
        rcases OA.out with ⟨x', h1, h2, h3, h4, h5⟩ | ⟨_, h⟩ | ⟨_, h⟩
        · rw [hO] at h3; injection h3 with h3 _; rw [h3]; exact ⟨h4, h5⟩
        · rw [hO] at h; cases h
        · rw [hO] at h; cases h
      rw [h3, h4]
      have TA := Lib.hid (fun w4 (g : Below w5.heap.size w5 w4) => HA.out w4 ((hw.below B5.out hw.1).below g (Nat.lt_of_lt_of_le hw.1 B5.out.size)))
      clear hO hS hB OA h3 h4 CA HA R1' R2' A1' A2'
      generalize x.2.length = xb at *
      go_wp2_with fail
      refine (TA.out _ (below_alloc _ _)).mono ?_
      rintro e w6 ⟨rfl, g6⟩
      have B6 := Lib.hid (next0 (next0 B5.out (below_alloc w5 _)) g6)
      clear g6
      go_wp2_with fail
      go_ret
      exact ⟨rfl, B6.out⟩
    · exfalso
      rcases OA.out with ⟨x', h1, h2, h3, h4, h5⟩ | ⟨h1, h⟩ | ⟨h1, h⟩
      · rw [hO] at h3; cases h3
      · omega
      · omega
  · exfalso
    rcases OT.out with ⟨t', _, h1, h2⟩ | ⟨h1, h2⟩
    · rw [hO] at h1; cases h1
    · omega
set_option maxRecDepth 100000 in
set_option maxHeartbeats 1600000 in
theorem nests_lo_many (n c : Int) (m q : Nat) (w : World) (hw : Wd w) (hn1 : 0 ≤ n) (hn2 : n ≤ 255) (hc1 : 0 ≤ c) (hc2 : c ≤ 255) (hm : n % 40 = m) (hq : c % 40 = q) (h4 : m < 4) (hq1 : 5 ≤ q) (hq40 : q < 40) : Calls Tryd.prog 9 #[.int .u8 n, .int .u8 c] w fun e w' => e = .returned (.bool true) ∧ Below w.heap.size w w' := by
  have HA := Lib.hid awake_any
  have hm4 : m < 40 := by omega
  have R1 := Lib.hid (fun w => repeat_any ⟨#[102, 40]⟩ m (by decide) (by omega) w)
  have R2 := Lib.hid (fun w => repeat_any ⟨#[41]⟩ m (by decide) (by omega) w)
  have hz1 : (bs (rep [102, 40] m)).size ≤ 100 := by rw [bs_size, rep_len]; simp; omega
  have hz2 : (bs (rep [41] m)).size ≤ 100 := by rw [bs_size, rep_len]; simp; omega
  have hz3 : (bs (rep [102, 40] m) ++ ⟨#[97]⟩).size ≤ 101 := by rw [ByteArray.size_append]; have : (⟨#[97]⟩ : ByteArray).size = 1 := rfl; omega
  have hz4 : Hid ((bs (rep [102, 40] m) ++ ⟨#[97]⟩ ++ bs (rep [41] m)).size ≤ 140737488355328) := Lib.hid (by rw [ByteArray.size_append]; omega)
  have TX : Hid ((bs (rep [102, 40] m) ++ ⟨#[97]⟩ ++ bs (rep [41] m)).data.toList = txT (m + 1)) := Lib.hid (by simp [bs, txT])
  have CT := Lib.hid (fun w1 (h : Wd w1) => by have := cterm_any (bs (rep [102, 40] m) ++ ⟨#[97]⟩ ++ bs (rep [41] m)) w1 h hz4.out; rw [TX.out] at this; exact this)
  have OT := Lib.hid (outT m hm4)
  have NM := Lib.hid (fun w => name_any (m + 1) w (by omega))
  generalize wholeF (termF 4) (txT (m + 1)) = O at *
  have R1' : Hid (∀ w, Calls Tryd.prog 25 #[.string ⟨#[102, 40]⟩, .int .i64 m] w fun e w' => e = .returned (.string (bs (rep [102, 40] m))) ∧ w = w') := R1
  have R2' : Hid (∀ w, Calls Tryd.prog 25 #[.string ⟨#[41]⟩, .int .i64 m] w fun e w' => e = .returned (.string (bs (rep [41] m))) ∧ w = w') := R2
  clear R1 R2
  generalize bs (rep [102, 40] m) = S1 at *
  generalize bs (rep [41] m) = S2 at *
  have A1 := Lib.hid (fun w => repeat_any ⟨#[97, 44]⟩ (q - 1) (by decide) (by omega) w)
  have A2 := Lib.hid (fun w => repeat_any ⟨#[97]⟩ (min q 1) (by decide) (by omega) w)
  have az1 : (bs (rep [97, 44] (q - 1))).size ≤ 100 := by rw [bs_size, rep_len]; simp; omega
  have az2 : (bs (rep [97] (min q 1))).size ≤ 100 := by rw [bs_size, rep_len]; simp; omega
  have az3 : (⟨#[112, 40]⟩ ++ bs (rep [97, 44] (q - 1))).size ≤ 102 := by rw [ByteArray.size_append]; have : (⟨#[112, 40]⟩ : ByteArray).size = 2 := rfl; omega
  have az4 : (⟨#[112, 40]⟩ ++ bs (rep [97, 44] (q - 1)) ++ bs (rep [97] (min q 1))).size ≤ 202 := by rw [ByteArray.size_append]; omega
  have az5 : Hid ((⟨#[112, 40]⟩ ++ bs (rep [97, 44] (q - 1)) ++ bs (rep [97] (min q 1)) ++ ⟨#[41, 46]⟩).size ≤ 140737488355328) := Lib.hid (by rw [ByteArray.size_append]; have : (⟨#[41, 46]⟩ : ByteArray).size = 2 := rfl; omega)
  have AX : Hid ((⟨#[112, 40]⟩ ++ bs (rep [97, 44] (q - 1)) ++ bs (rep [97] (min q 1)) ++ ⟨#[41, 46]⟩).data.toList = txA q) := Lib.hid (by simp [bs, txA])
  have CA := Lib.hid (fun w1 (h : Wd w1) => by have := crule_any (⟨#[112, 40]⟩ ++ bs (rep [97, 44] (q - 1)) ++ bs (rep [97] (min q 1)) ++ ⟨#[41, 46]⟩) w1 h az5.out; rw [AX.out] at this; exact this)
  have OA := Lib.hid (outA q hq40)
  generalize wholeF ruleF (txA q) = OR at *
  have A1' : Hid (∀ w, Calls Tryd.prog 25 #[.string ⟨#[97, 44]⟩, .int .i64 ((q : Int) - 1)] w fun e w' => e = .returned (.string (bs (rep [97, 44] (q - 1)))) ∧ w = w') := Lib.hid (by have e : ((q : Int) - 1) = ((q - 1 : Nat) : Int) := (by omega); rw [e]; exact A1.out)
  have A2' : Hid (∀ w, Calls Tryd.prog 25 #[.string ⟨#[97]⟩, .int .i64 (1 : Int)] w fun e w' => e = .returned (.string (bs (rep [97] (min q 1)))) ∧ w = w') := Lib.hid (by have e : (1 : Int) = ((min q 1 : Nat) : Int) := (by omega); rw [e]; exact A2.out)
  clear A1 A2
  generalize bs (rep [97, 44] (q - 1)) = S3 at *
  generalize bs (rep [97] (min q 1)) = S4 at *
  have qi1 : 5 ≤ (q : Int) := by omega
  have qi2 : (q : Int) ≤ 39 := by omega
  go_enter Tryd.func9, Tryd.ntmps9
  go_wp2_with fail
  refine (R1'.out _).mono ?_
  rintro e w' ⟨rfl, rfl⟩
  go_wp2_with fail
  refine (R2'.out _).mono ?_
  rintro e w' ⟨rfl, rfl⟩
  go_wp2_with fail
  refine (CT.out _ hw).mono ?_
  rintro e w1 (⟨t, p, cc, hO, rfl, hS, hn, hB⟩ | ⟨a, er, hO, rfl, hB⟩)
  · have B1 := Lib.hid hB
    have TN : t.nm = if m + 1 = 1 then ⟨#[97]⟩ else ⟨#[102]⟩ := by
      rcases OT.out with ⟨t', _, h1, h2⟩ | ⟨h1, _⟩
      · rw [hO] at h1; injection h1 with h1 _; rw [h1]; exact h2
      · omega
    have NM2 : Hid (∀ w, Calls Tryd.prog 26 #[.int .i64 ((m : Int) + 1)] w fun e w' => e = .returned (.string t.nm) ∧ w = w') := Lib.hid (by rw [TN]; exact NM.out)
    clear hO hS hn hB OT TN NM CT TX hz4
    generalize t.nm = tn at *
    generalize t.args.length = ta at *
    go_upto_region 4 with fail
    go_quiet ((go_at_call 26; exact quiet_eq (NM2.out _)))
    have HB4 := Lib.hid (next0 B1.out (below_drewN (below_alloc w1 (.cells #[.string tn, .slice p ta cc] 31)) nq))
    generalize ((w1.alloc (.cells #[.string tn, .slice p ta cc] 31)).drewN nq) = W4 at *
    clear NM2
    go_wp2_with fail
    refine (A1'.out _).mono ?_
    rintro e w' ⟨rfl, rfl⟩
    go_wp2_with fail
    refine (A2'.out _).mono ?_
    rintro e w' ⟨rfl, rfl⟩
    go_wp2_with fail
    refine (CA.out _ (hw.below HB4.out hw.1)).mono ?_
    rintro e w5 (⟨x, pp, pc, qq, qc, hO, rfl, hS, hB⟩ | ⟨a, er, hO, rfl, hB⟩)
    · exfalso
      rcases OA.out with ⟨x', h1, h2, h3, h4, h5⟩ | ⟨_, h⟩ | ⟨_, h⟩
      · first | omega | (rw [hO] at h3; cases h3)
      · rw [hO] at h; cases h
      · rw [hO] at h; cases h
    · have B5 := Lib.hid (next0 HB4.out hB)
      obtain ⟨e1, e2⟩ : a = 10 ∧ er = 5 := by
        rcases OA.out with ⟨x', h1, h2, h3, h4, h5⟩ | ⟨h1, h⟩ | ⟨h1, h⟩
        · rw [hO] at h3; cases h3
        · first | omega | (rw [hO] at h; injection h with h1 h2; exact ⟨h1, h2⟩)
        · first | omega | (rw [hO] at h; injection h with h1 h2; exact ⟨h1, h2⟩)
      subst e1 e2
      have TA := Lib.hid (fun w4 (g : Below w5.heap.size w5 w4) => HA.out w4 ((hw.below B5.out hw.1).below g (Nat.lt_of_lt_of_le hw.1 B5.out.size)))
      clear hO hB OA CA HA R1' R2' A1' A2'
      go_wp2_with fail
      refine (TA.out _ (below_alloc _ _)).mono ?_
      rintro e w6 ⟨rfl, g6⟩
      have B6 := Lib.hid (next0 (next0 B5.out (below_alloc w5 _)) g6)
      clear g6
      go_wp2_with fail
      go_ret
      exact ⟨rfl, B6.out⟩
  · exfalso
    rcases OT.out with ⟨t', _, h1, h2⟩ | ⟨h1, h2⟩
    · rw [hO] at h1; cases h1
    · omega
set_option maxRecDepth 100000 in
set_option maxHeartbeats 1600000 in
theorem nests_hi_zero (n c : Int) (m q : Nat) (w : World) (hw : Wd w) (hn1 : 0 ≤ n) (hn2 : n ≤ 255) (hc1 : 0 ≤ c) (hc2 : c ≤ 255) (hm : n % 40 = m) (hq : c % 40 = q) (h4 : 4 ≤ m) (hm4 : m < 40) (hq0 : q = 0) : Calls Tryd.prog 9 #[.int .u8 n, .int .u8 c] w fun e w' => e = .returned (.bool true) ∧ Below w.heap.size w w' := by
  have HA := Lib.hid awake_any
  have hq40 : q < 40 := by omega
  have R1 := Lib.hid (fun w => repeat_any ⟨#[102, 40]⟩ m (by decide) (by omega) w)
  have R2 := Lib.hid (fun w => repeat_any ⟨#[41]⟩ m (by decide) (by omega) w)
  have hz1 : (bs (rep [102, 40] m)).size ≤ 100 := by rw [bs_size, rep_len]; simp; omega
  have hz2 : (bs (rep [41] m)).size ≤ 100 := by rw [bs_size, rep_len]; simp; omega
  have hz3 : (bs (rep [102, 40] m) ++ ⟨#[97]⟩).size ≤ 101 := by rw [ByteArray.size_append]; have : (⟨#[97]⟩ : ByteArray).size = 1 := rfl; omega
  have hz4 : Hid ((bs (rep [102, 40] m) ++ ⟨#[97]⟩ ++ bs (rep [41] m)).size ≤ 140737488355328) := Lib.hid (by rw [ByteArray.size_append]; omega)
  have TX : Hid ((bs (rep [102, 40] m) ++ ⟨#[97]⟩ ++ bs (rep [41] m)).data.toList = txT (m + 1)) := Lib.hid (by simp [bs, txT])
  have CT := Lib.hid (fun w1 (h : Wd w1) => by have := cterm_any (bs (rep [102, 40] m) ++ ⟨#[97]⟩ ++ bs (rep [41] m)) w1 h hz4.out; rw [TX.out] at this; exact this)
  have OT := Lib.hid (outT m hm4)
  generalize wholeF (termF 4) (txT (m + 1)) = O at *
  have R1' : Hid (∀ w, Calls Tryd.prog 25 #[.string ⟨#[102, 40]⟩, .int .i64 m] w fun e w' => e = .returned (.string (bs (rep [102, 40] m))) ∧ w = w') := R1
  have R2' : Hid (∀ w, Calls Tryd.prog 25 #[.string ⟨#[41]⟩, .int .i64 m] w fun e w' => e = .returned (.string (bs (rep [41] m))) ∧ w = w') := R2
  clear R1 R2
  generalize bs (rep [102, 40] m) = S1 at *
  generalize bs (rep [41] m) = S2 at *
  have A1 := Lib.hid (fun w => repeat_any ⟨#[97, 44]⟩ (q - 1) (by decide) (by omega) w)
  have A2 := Lib.hid (fun w => repeat_any ⟨#[97]⟩ (min q 1) (by decide) (by omega) w)
  have az1 : (bs (rep [97, 44] (q - 1))).size ≤ 100 := by rw [bs_size, rep_len]; simp; omega
  have az2 : (bs (rep [97] (min q 1))).size ≤ 100 := by rw [bs_size, rep_len]; simp; omega
  have az3 : (⟨#[112, 40]⟩ ++ bs (rep [97, 44] (q - 1))).size ≤ 102 := by rw [ByteArray.size_append]; have : (⟨#[112, 40]⟩ : ByteArray).size = 2 := rfl; omega
  have az4 : (⟨#[112, 40]⟩ ++ bs (rep [97, 44] (q - 1)) ++ bs (rep [97] (min q 1))).size ≤ 202 := by rw [ByteArray.size_append]; omega
  have az5 : Hid ((⟨#[112, 40]⟩ ++ bs (rep [97, 44] (q - 1)) ++ bs (rep [97] (min q 1)) ++ ⟨#[41, 46]⟩).size ≤ 140737488355328) := Lib.hid (by rw [ByteArray.size_append]; have : (⟨#[41, 46]⟩ : ByteArray).size = 2 := rfl; omega)
  have AX : Hid ((⟨#[112, 40]⟩ ++ bs (rep [97, 44] (q - 1)) ++ bs (rep [97] (min q 1)) ++ ⟨#[41, 46]⟩).data.toList = txA q) := Lib.hid (by simp [bs, txA])
  have CA := Lib.hid (fun w1 (h : Wd w1) => by have := crule_any (⟨#[112, 40]⟩ ++ bs (rep [97, 44] (q - 1)) ++ bs (rep [97] (min q 1)) ++ ⟨#[41, 46]⟩) w1 h az5.out; rw [AX.out] at this; exact this)
  have OA := Lib.hid (outA q hq40)
  generalize wholeF ruleF (txA q) = OR at *
  have A1' : Hid (∀ w, Calls Tryd.prog 25 #[.string ⟨#[97, 44]⟩, .int .i64 (0 : Int)] w fun e w' => e = .returned (.string (bs (rep [97, 44] (q - 1)))) ∧ w = w') := Lib.hid (by have e : (0 : Int) = ((q - 1 : Nat) : Int) := (by omega); rw [e]; exact A1.out)
  have A2' : Hid (∀ w, Calls Tryd.prog 25 #[.string ⟨#[97]⟩, .int .i64 (0 : Int)] w fun e w' => e = .returned (.string (bs (rep [97] (min q 1)))) ∧ w = w') := Lib.hid (by have e : (0 : Int) = ((min q 1 : Nat) : Int) := (by omega); rw [e]; exact A2.out)
  clear A1 A2
  generalize bs (rep [97, 44] (q - 1)) = S3 at *
  generalize bs (rep [97] (min q 1)) = S4 at *
  subst hq0
  have mi1 : 4 ≤ (m : Int) := by omega
  have mi2 : (m : Int) ≤ 39 := by omega
  go_enter Tryd.func9, Tryd.ntmps9
  go_wp2_with fail
  refine (R1'.out _).mono ?_
  rintro e w' ⟨rfl, rfl⟩
  go_wp2_with fail
  refine (R2'.out _).mono ?_
  rintro e w' ⟨rfl, rfl⟩
  go_wp2_with fail
  refine (CT.out _ hw).mono ?_
  rintro e w1 (⟨t, p, cc, hO, rfl, hS, hn, hB⟩ | ⟨a, er, hO, rfl, hB⟩)
  · exfalso
    rcases OT.out with ⟨t', h1, _⟩ | ⟨_, h2⟩
    · omega
    · rw [hO] at h2; cases h2
  · have B1 := Lib.hid hB
    obtain ⟨e1, e2⟩ : a = 8 ∧ er = 3 := by
      rcases OT.out with ⟨t', h1, _⟩ | ⟨_, h2⟩
      · omega
      · rw [hO] at h2; injection h2 with h1 h2; exact ⟨h1, h2⟩
    subst e1 e2
    clear hO hB OT CT TX hz4
    go_upto_region 8 with fail
    have HB4 := Lib.hid (next0 B1.out (below_alloc w1 (.cells #[.string ⟨#[]⟩, .slice none 0 0] 31)))
    generalize (w1.alloc (.cells #[.string ⟨#[]⟩, .slice none 0 0] 31)) = W4 at *
    go_wp2_with fail
    refine (A1'.out _).mono ?_
    rintro e w' ⟨rfl, rfl⟩
    go_wp2_with fail
    refine (A2'.out _).mono ?_
    rintro e w' ⟨rfl, rfl⟩
    go_wp2_with fail
    refine (CA.out _ (hw.below HB4.out hw.1)).mono ?_
    rintro e w5 (⟨x, pp, pc, qq, qc, hO, rfl, hS, hB⟩ | ⟨a, er, hO, rfl, hB⟩)
    · exfalso
      rcases OA.out with ⟨x', h1, h2, h3, h4, h5⟩ | ⟨_, h⟩ | ⟨_, h⟩
      · first | omega | (rw [hO] at h3; cases h3)
      · rw [hO] at h; cases h
      · rw [hO] at h; cases h
    · have B5 := Lib.hid (next0 HB4.out hB)
      obtain ⟨e1, e2⟩ : a = 2 ∧ er = 1 := by
        rcases OA.out with ⟨x', h1, h2, h3, h4, h5⟩ | ⟨h1, h⟩ | ⟨h1, h⟩
        · rw [hO] at h3; cases h3
        · first | omega | (rw [hO] at h; injection h with h1 h2; exact ⟨h1, h2⟩)
        · first | omega | (rw [hO] at h; injection h with h1 h2; exact ⟨h1, h2⟩)
      subst e1 e2
      have TA := Lib.hid (fun w4 (g : Below w5.heap.size w5 w4) => HA.out w4 ((hw.below B5.out hw.1).below g (Nat.lt_of_lt_of_le hw.1 B5.out.size)))
      clear hO hB OA CA HA R1' R2' A1' A2'
      go_wp2_with fail
      refine (TA.out _ (below_alloc _ _)).mono ?_
      rintro e w6 ⟨rfl, g6⟩
      have B6 := Lib.hid (next0 (next0 B5.out (below_alloc w5 _)) g6)
      clear g6
      go_wp2_with fail
      go_ret
      exact ⟨rfl, B6.out⟩
set_option maxRecDepth 100000 in
set_option maxHeartbeats 1600000 in
theorem nests_hi_one (n c : Int) (m q : Nat) (w : World) (hw : Wd w) (hn1 : 0 ≤ n) (hn2 : n ≤ 255) (hc1 : 0 ≤ c) (hc2 : c ≤ 255) (hm : n % 40 = m) (hq : c % 40 = q) (h4 : 4 ≤ m) (hm4 : m < 40) (hq0 : q = 1) : Calls Tryd.prog 9 #[.int .u8 n, .int .u8 c] w fun e w' => e = .returned (.bool true) ∧ Below w.heap.size w w' := by
  have HA := Lib.hid awake_any
  have hq40 : q < 40 := by omega
  have R1 := Lib.hid (fun w => repeat_any ⟨#[102, 40]⟩ m (by decide) (by omega) w)
  have R2 := Lib.hid (fun w => repeat_any ⟨#[41]⟩ m (by decide) (by omega) w)
  have hz1 : (bs (rep [102, 40] m)).size ≤ 100 := by rw [bs_size, rep_len]; simp; omega
  have hz2 : (bs (rep [41] m)).size ≤ 100 := by rw [bs_size, rep_len]; simp; omega
  have hz3 : (bs (rep [102, 40] m) ++ ⟨#[97]⟩).size ≤ 101 := by rw [ByteArray.size_append]; have : (⟨#[97]⟩ : ByteArray).size = 1 := rfl; omega
  have hz4 : Hid ((bs (rep [102, 40] m) ++ ⟨#[97]⟩ ++ bs (rep [41] m)).size ≤ 140737488355328) := Lib.hid (by rw [ByteArray.size_append]; omega)
  have TX : Hid ((bs (rep [102, 40] m) ++ ⟨#[97]⟩ ++ bs (rep [41] m)).data.toList = txT (m + 1)) := Lib.hid (by simp [bs, txT])
  have CT := Lib.hid (fun w1 (h : Wd w1) => by have := cterm_any (bs (rep [102, 40] m) ++ ⟨#[97]⟩ ++ bs (rep [41] m)) w1 h hz4.out; rw [TX.out] at this; exact this)
  have OT := Lib.hid (outT m hm4)
  generalize wholeF (termF 4) (txT (m + 1)) = O at *
  have R1' : Hid (∀ w, Calls Tryd.prog 25 #[.string ⟨#[102, 40]⟩, .int .i64 m] w fun e w' => e = .returned (.string (bs (rep [102, 40] m))) ∧ w = w') := R1
  have R2' : Hid (∀ w, Calls Tryd.prog 25 #[.string ⟨#[41]⟩, .int .i64 m] w fun e w' => e = .returned (.string (bs (rep [41] m))) ∧ w = w') := R2
  clear R1 R2
  generalize bs (rep [102, 40] m) = S1 at *
  generalize bs (rep [41] m) = S2 at *
  have A1 := Lib.hid (fun w => repeat_any ⟨#[97, 44]⟩ (q - 1) (by decide) (by omega) w)
  have A2 := Lib.hid (fun w => repeat_any ⟨#[97]⟩ (min q 1) (by decide) (by omega) w)
  have az1 : (bs (rep [97, 44] (q - 1))).size ≤ 100 := by rw [bs_size, rep_len]; simp; omega
  have az2 : (bs (rep [97] (min q 1))).size ≤ 100 := by rw [bs_size, rep_len]; simp; omega
  have az3 : (⟨#[112, 40]⟩ ++ bs (rep [97, 44] (q - 1))).size ≤ 102 := by rw [ByteArray.size_append]; have : (⟨#[112, 40]⟩ : ByteArray).size = 2 := rfl; omega
  have az4 : (⟨#[112, 40]⟩ ++ bs (rep [97, 44] (q - 1)) ++ bs (rep [97] (min q 1))).size ≤ 202 := by rw [ByteArray.size_append]; omega
  have az5 : Hid ((⟨#[112, 40]⟩ ++ bs (rep [97, 44] (q - 1)) ++ bs (rep [97] (min q 1)) ++ ⟨#[41, 46]⟩).size ≤ 140737488355328) := Lib.hid (by rw [ByteArray.size_append]; have : (⟨#[41, 46]⟩ : ByteArray).size = 2 := rfl; omega)
  have AX : Hid ((⟨#[112, 40]⟩ ++ bs (rep [97, 44] (q - 1)) ++ bs (rep [97] (min q 1)) ++ ⟨#[41, 46]⟩).data.toList = txA q) := Lib.hid (by simp [bs, txA])
  have CA := Lib.hid (fun w1 (h : Wd w1) => by have := crule_any (⟨#[112, 40]⟩ ++ bs (rep [97, 44] (q - 1)) ++ bs (rep [97] (min q 1)) ++ ⟨#[41, 46]⟩) w1 h az5.out; rw [AX.out] at this; exact this)
  have OA := Lib.hid (outA q hq40)
  generalize wholeF ruleF (txA q) = OR at *
  have A1' : Hid (∀ w, Calls Tryd.prog 25 #[.string ⟨#[97, 44]⟩, .int .i64 (0 : Int)] w fun e w' => e = .returned (.string (bs (rep [97, 44] (q - 1)))) ∧ w = w') := Lib.hid (by have e : (0 : Int) = ((q - 1 : Nat) : Int) := (by omega); rw [e]; exact A1.out)
  have A2' : Hid (∀ w, Calls Tryd.prog 25 #[.string ⟨#[97]⟩, .int .i64 (1 : Int)] w fun e w' => e = .returned (.string (bs (rep [97] (min q 1)))) ∧ w = w') := Lib.hid (by have e : (1 : Int) = ((min q 1 : Nat) : Int) := (by omega); rw [e]; exact A2.out)
  clear A1 A2
  generalize bs (rep [97, 44] (q - 1)) = S3 at *
  generalize bs (rep [97] (min q 1)) = S4 at *
  subst hq0
  have mi1 : 4 ≤ (m : Int) := by omega
  have mi2 : (m : Int) ≤ 39 := by omega
  go_enter Tryd.func9, Tryd.ntmps9
  go_wp2_with fail
  refine (R1'.out _).mono ?_
  rintro e w' ⟨rfl, rfl⟩
  go_wp2_with fail
  refine (R2'.out _).mono ?_
  rintro e w' ⟨rfl, rfl⟩
  go_wp2_with fail
  refine (CT.out _ hw).mono ?_
  rintro e w1 (⟨t, p, cc, hO, rfl, hS, hn, hB⟩ | ⟨a, er, hO, rfl, hB⟩)
  · exfalso
    rcases OT.out with ⟨t', h1, _⟩ | ⟨_, h2⟩
    · omega
    · rw [hO] at h2; cases h2
  · have B1 := Lib.hid hB
    obtain ⟨e1, e2⟩ : a = 8 ∧ er = 3 := by
      rcases OT.out with ⟨t', h1, _⟩ | ⟨_, h2⟩
      · omega
      · rw [hO] at h2; injection h2 with h1 h2; exact ⟨h1, h2⟩
    subst e1 e2
    clear hO hB OT CT TX hz4
    go_upto_region 8 with fail
    have HB4 := Lib.hid (next0 B1.out (below_alloc w1 (.cells #[.string ⟨#[]⟩, .slice none 0 0] 31)))
    generalize (w1.alloc (.cells #[.string ⟨#[]⟩, .slice none 0 0] 31)) = W4 at *
    go_wp2_with fail
    refine (A1'.out _).mono ?_
    rintro e w' ⟨rfl, rfl⟩
    go_wp2_with fail
    refine (A2'.out _).mono ?_
    rintro e w' ⟨rfl, rfl⟩
    go_wp2_with fail
    refine (CA.out _ (hw.below HB4.out hw.1)).mono ?_
    rintro e w5 (⟨x, pp, pc, qq, qc, hO, rfl, hS, hB⟩ | ⟨a, er, hO, rfl, hB⟩)
    · have B5 := Lib.hid (next0 HB4.out hB)
      obtain ⟨h3, h4⟩ : x.1.nm = ⟨#[112]⟩ ∧ x.1.args.length = 1 := by
        rcases OA.out with ⟨x', h1, h2, h3, h4, h5⟩ | ⟨_, h⟩ | ⟨_, h⟩
        · rw [hO] at h3; injection h3 with h3 _; rw [h3]; exact ⟨h4, h5⟩
        · rw [hO] at h; cases h
        · rw [hO] at h; cases h
      rw [h3, h4]
      have TA := Lib.hid (fun w4 (g : Below w5.heap.size w5 w4) => HA.out w4 ((hw.below B5.out hw.1).below g (Nat.lt_of_lt_of_le hw.1 B5.out.size)))
      clear hO hS hB OA h3 h4 CA HA R1' R2' A1' A2'
      generalize x.2.length = xb at *
      go_wp2_with fail
      refine (TA.out _ (below_alloc _ _)).mono ?_
      rintro e w6 ⟨rfl, g6⟩
      have B6 := Lib.hid (next0 (next0 B5.out (below_alloc w5 _)) g6)
      clear g6
      go_wp2_with fail
      go_ret
      exact ⟨rfl, B6.out⟩
    · exfalso
      rcases OA.out with ⟨x', h1, h2, h3, h4, h5⟩ | ⟨h1, h⟩ | ⟨h1, h⟩
      · rw [hO] at h3; cases h3
      · omega
      · omega
set_option maxRecDepth 100000 in
set_option maxHeartbeats 1600000 in
theorem nests_hi_few (n c : Int) (m q : Nat) (w : World) (hw : Wd w) (hn1 : 0 ≤ n) (hn2 : n ≤ 255) (hc1 : 0 ≤ c) (hc2 : c ≤ 255) (hm : n % 40 = m) (hq : c % 40 = q) (h4 : 4 ≤ m) (hm4 : m < 40) (hq1 : 2 ≤ q) (hq4 : q ≤ 4) : Calls Tryd.prog 9 #[.int .u8 n, .int .u8 c] w fun e w' => e = .returned (.bool true) ∧ Below w.heap.size w w' := by
  have HA := Lib.hid awake_any
  have hq40 : q < 40 := by omega
  have R1 := Lib.hid (fun w => repeat_any ⟨#[102, 40]⟩ m (by decide) (by omega) w)
  have R2 := Lib.hid (fun w => repeat_any ⟨#[41]⟩ m (by decide) (by omega) w)
  have hz1 : (bs (rep [102, 40] m)).size ≤ 100 := by rw [bs_size, rep_len]; simp; omega
  have hz2 : (bs (rep [41] m)).size ≤ 100 := by rw [bs_size, rep_len]; simp; omega
  have hz3 : (bs (rep [102, 40] m) ++ ⟨#[97]⟩).size ≤ 101 := by rw [ByteArray.size_append]; have : (⟨#[97]⟩ : ByteArray).size = 1 := rfl; omega
  have hz4 : Hid ((bs (rep [102, 40] m) ++ ⟨#[97]⟩ ++ bs (rep [41] m)).size ≤ 140737488355328) := Lib.hid (by rw [ByteArray.size_append]; omega)
  have TX : Hid ((bs (rep [102, 40] m) ++ ⟨#[97]⟩ ++ bs (rep [41] m)).data.toList = txT (m + 1)) := Lib.hid (by simp [bs, txT])
  have CT := Lib.hid (fun w1 (h : Wd w1) => by have := cterm_any (bs (rep [102, 40] m) ++ ⟨#[97]⟩ ++ bs (rep [41] m)) w1 h hz4.out; rw [TX.out] at this; exact this)
  have OT := Lib.hid (outT m hm4)
  generalize wholeF (termF 4) (txT (m + 1)) = O at *
  have R1' : Hid (∀ w, Calls Tryd.prog 25 #[.string ⟨#[102, 40]⟩, .int .i64 m] w fun e w' => e = .returned (.string (bs (rep [102, 40] m))) ∧ w = w') := R1
  have R2' : Hid (∀ w, Calls Tryd.prog 25 #[.string ⟨#[41]⟩, .int .i64 m] w fun e w' => e = .returned (.string (bs (rep [41] m))) ∧ w = w') := R2
  clear R1 R2
  generalize bs (rep [102, 40] m) = S1 at *
  generalize bs (rep [41] m) = S2 at *
  have A1 := Lib.hid (fun w => repeat_any ⟨#[97, 44]⟩ (q - 1) (by decide) (by omega) w)
  have A2 := Lib.hid (fun w => repeat_any ⟨#[97]⟩ (min q 1) (by decide) (by omega) w)
  have az1 : (bs (rep [97, 44] (q - 1))).size ≤ 100 := by rw [bs_size, rep_len]; simp; omega
  have az2 : (bs (rep [97] (min q 1))).size ≤ 100 := by rw [bs_size, rep_len]; simp; omega
  have az3 : (⟨#[112, 40]⟩ ++ bs (rep [97, 44] (q - 1))).size ≤ 102 := by rw [ByteArray.size_append]; have : (⟨#[112, 40]⟩ : ByteArray).size = 2 := rfl; omega
  have az4 : (⟨#[112, 40]⟩ ++ bs (rep [97, 44] (q - 1)) ++ bs (rep [97] (min q 1))).size ≤ 202 := by rw [ByteArray.size_append]; omega
  have az5 : Hid ((⟨#[112, 40]⟩ ++ bs (rep [97, 44] (q - 1)) ++ bs (rep [97] (min q 1)) ++ ⟨#[41, 46]⟩).size ≤ 140737488355328) := Lib.hid (by rw [ByteArray.size_append]; have : (⟨#[41, 46]⟩ : ByteArray).size = 2 := rfl; omega)
  have AX : Hid ((⟨#[112, 40]⟩ ++ bs (rep [97, 44] (q - 1)) ++ bs (rep [97] (min q 1)) ++ ⟨#[41, 46]⟩).data.toList = txA q) := Lib.hid (by simp [bs, txA])
  have CA := Lib.hid (fun w1 (h : Wd w1) => by have := crule_any (⟨#[112, 40]⟩ ++ bs (rep [97, 44] (q - 1)) ++ bs (rep [97] (min q 1)) ++ ⟨#[41, 46]⟩) w1 h az5.out; rw [AX.out] at this; exact this)
  have OA := Lib.hid (outA q hq40)
  generalize wholeF ruleF (txA q) = OR at *
  have A1' : Hid (∀ w, Calls Tryd.prog 25 #[.string ⟨#[97, 44]⟩, .int .i64 ((q : Int) - 1)] w fun e w' => e = .returned (.string (bs (rep [97, 44] (q - 1)))) ∧ w = w') := Lib.hid (by have e : ((q : Int) - 1) = ((q - 1 : Nat) : Int) := (by omega); rw [e]; exact A1.out)
  have A2' : Hid (∀ w, Calls Tryd.prog 25 #[.string ⟨#[97]⟩, .int .i64 (1 : Int)] w fun e w' => e = .returned (.string (bs (rep [97] (min q 1)))) ∧ w = w') := Lib.hid (by have e : (1 : Int) = ((min q 1 : Nat) : Int) := (by omega); rw [e]; exact A2.out)
  clear A1 A2
  generalize bs (rep [97, 44] (q - 1)) = S3 at *
  generalize bs (rep [97] (min q 1)) = S4 at *
  have qi1 : 2 ≤ (q : Int) := by omega
  have qi2 : (q : Int) ≤ 4 := by omega
  have mi1 : 4 ≤ (m : Int) := by omega
  have mi2 : (m : Int) ≤ 39 := by omega
  go_enter Tryd.func9, Tryd.ntmps9
  go_wp2_with fail
  refine (R1'.out _).mono ?_
  rintro e w' ⟨rfl, rfl⟩
  go_wp2_with fail
  refine (R2'.out _).mono ?_
  rintro e w' ⟨rfl, rfl⟩
  go_wp2_with fail
  refine (CT.out _ hw).mono ?_
  rintro e w1 (⟨t, p, cc, hO, rfl, hS, hn, hB⟩ | ⟨a, er, hO, rfl, hB⟩)
  · exfalso
    rcases OT.out with ⟨t', h1, _⟩ | ⟨_, h2⟩
    · omega
    · rw [hO] at h2; cases h2
  · have B1 := Lib.hid hB
    obtain ⟨e1, e2⟩ : a = 8 ∧ er = 3 := by
      rcases OT.out with ⟨t', h1, _⟩ | ⟨_, h2⟩
      · omega
      · rw [hO] at h2; injection h2 with h1 h2; exact ⟨h1, h2⟩
    subst e1 e2
    clear hO hB OT CT TX hz4
    go_upto_region 8 with fail
    have HB4 := Lib.hid (next0 B1.out (below_alloc w1 (.cells #[.string ⟨#[]⟩, .slice none 0 0] 31)))
    generalize (w1.alloc (.cells #[.string ⟨#[]⟩, .slice none 0 0] 31)) = W4 at *
    go_wp2_with fail
    refine (A1'.out _).mono ?_
    rintro e w' ⟨rfl, rfl⟩
    go_wp2_with fail
    refine (A2'.out _).mono ?_
    rintro e w' ⟨rfl, rfl⟩
    go_wp2_with fail
    refine (CA.out _ (hw.below HB4.out hw.1)).mono ?_
    rintro e w5 (⟨x, pp, pc, qq, qc, hO, rfl, hS, hB⟩ | ⟨a, er, hO, rfl, hB⟩)
    · have B5 := Lib.hid (next0 HB4.out hB)
      obtain ⟨h3, h4⟩ : x.1.nm = ⟨#[112]⟩ ∧ x.1.args.length = q := by
        rcases OA.out with ⟨x', h1, h2, h3, h4, h5⟩ | ⟨_, h⟩ | ⟨_, h⟩
        · rw [hO] at h3; injection h3 with h3 _; rw [h3]; exact ⟨h4, h5⟩
        · rw [hO] at h; cases h
        · rw [hO] at h; cases h
      rw [h3, h4]
      have TA := Lib.hid (fun w4 (g : Below w5.heap.size w5 w4) => HA.out w4 ((hw.below B5.out hw.1).below g (Nat.lt_of_lt_of_le hw.1 B5.out.size)))
      clear hO hS hB OA h3 h4 CA HA R1' R2' A1' A2'
      generalize x.2.length = xb at *
      go_wp2_with fail
      refine (TA.out _ (below_alloc _ _)).mono ?_
      rintro e w6 ⟨rfl, g6⟩
      have B6 := Lib.hid (next0 (next0 B5.out (below_alloc w5 _)) g6)
      clear g6
      go_wp2_with fail
      go_ret
      exact ⟨rfl, B6.out⟩
    · exfalso
      rcases OA.out with ⟨x', h1, h2, h3, h4, h5⟩ | ⟨h1, h⟩ | ⟨h1, h⟩
      · rw [hO] at h3; cases h3
      · omega
      · omega
set_option maxRecDepth 100000 in
set_option maxHeartbeats 1600000 in
theorem nests_hi_many (n c : Int) (m q : Nat) (w : World) (hw : Wd w) (hn1 : 0 ≤ n) (hn2 : n ≤ 255) (hc1 : 0 ≤ c) (hc2 : c ≤ 255) (hm : n % 40 = m) (hq : c % 40 = q) (h4 : 4 ≤ m) (hm4 : m < 40) (hq1 : 5 ≤ q) (hq40 : q < 40) : Calls Tryd.prog 9 #[.int .u8 n, .int .u8 c] w fun e w' => e = .returned (.bool true) ∧ Below w.heap.size w w' := by
  have HA := Lib.hid awake_any
  have R1 := Lib.hid (fun w => repeat_any ⟨#[102, 40]⟩ m (by decide) (by omega) w)
  have R2 := Lib.hid (fun w => repeat_any ⟨#[41]⟩ m (by decide) (by omega) w)
  have hz1 : (bs (rep [102, 40] m)).size ≤ 100 := by rw [bs_size, rep_len]; simp; omega
  have hz2 : (bs (rep [41] m)).size ≤ 100 := by rw [bs_size, rep_len]; simp; omega
  have hz3 : (bs (rep [102, 40] m) ++ ⟨#[97]⟩).size ≤ 101 := by rw [ByteArray.size_append]; have : (⟨#[97]⟩ : ByteArray).size = 1 := rfl; omega
  have hz4 : Hid ((bs (rep [102, 40] m) ++ ⟨#[97]⟩ ++ bs (rep [41] m)).size ≤ 140737488355328) := Lib.hid (by rw [ByteArray.size_append]; omega)
  have TX : Hid ((bs (rep [102, 40] m) ++ ⟨#[97]⟩ ++ bs (rep [41] m)).data.toList = txT (m + 1)) := Lib.hid (by simp [bs, txT])
  have CT := Lib.hid (fun w1 (h : Wd w1) => by have := cterm_any (bs (rep [102, 40] m) ++ ⟨#[97]⟩ ++ bs (rep [41] m)) w1 h hz4.out; rw [TX.out] at this; exact this)
  have OT := Lib.hid (outT m hm4)
  generalize wholeF (termF 4) (txT (m + 1)) = O at *
  have R1' : Hid (∀ w, Calls Tryd.prog 25 #[.string ⟨#[102, 40]⟩, .int .i64 m] w fun e w' => e = .returned (.string (bs (rep [102, 40] m))) ∧ w = w') := R1
  have R2' : Hid (∀ w, Calls Tryd.prog 25 #[.string ⟨#[41]⟩, .int .i64 m] w fun e w' => e = .returned (.string (bs (rep [41] m))) ∧ w = w') := R2
  clear R1 R2
  generalize bs (rep [102, 40] m) = S1 at *
  generalize bs (rep [41] m) = S2 at *
  have A1 := Lib.hid (fun w => repeat_any ⟨#[97, 44]⟩ (q - 1) (by decide) (by omega) w)
  have A2 := Lib.hid (fun w => repeat_any ⟨#[97]⟩ (min q 1) (by decide) (by omega) w)
  have az1 : (bs (rep [97, 44] (q - 1))).size ≤ 100 := by rw [bs_size, rep_len]; simp; omega
  have az2 : (bs (rep [97] (min q 1))).size ≤ 100 := by rw [bs_size, rep_len]; simp; omega
  have az3 : (⟨#[112, 40]⟩ ++ bs (rep [97, 44] (q - 1))).size ≤ 102 := by rw [ByteArray.size_append]; have : (⟨#[112, 40]⟩ : ByteArray).size = 2 := rfl; omega
  have az4 : (⟨#[112, 40]⟩ ++ bs (rep [97, 44] (q - 1)) ++ bs (rep [97] (min q 1))).size ≤ 202 := by rw [ByteArray.size_append]; omega
  have az5 : Hid ((⟨#[112, 40]⟩ ++ bs (rep [97, 44] (q - 1)) ++ bs (rep [97] (min q 1)) ++ ⟨#[41, 46]⟩).size ≤ 140737488355328) := Lib.hid (by rw [ByteArray.size_append]; have : (⟨#[41, 46]⟩ : ByteArray).size = 2 := rfl; omega)
  have AX : Hid ((⟨#[112, 40]⟩ ++ bs (rep [97, 44] (q - 1)) ++ bs (rep [97] (min q 1)) ++ ⟨#[41, 46]⟩).data.toList = txA q) := Lib.hid (by simp [bs, txA])
  have CA := Lib.hid (fun w1 (h : Wd w1) => by have := crule_any (⟨#[112, 40]⟩ ++ bs (rep [97, 44] (q - 1)) ++ bs (rep [97] (min q 1)) ++ ⟨#[41, 46]⟩) w1 h az5.out; rw [AX.out] at this; exact this)
  have OA := Lib.hid (outA q hq40)
  generalize wholeF ruleF (txA q) = OR at *
  have A1' : Hid (∀ w, Calls Tryd.prog 25 #[.string ⟨#[97, 44]⟩, .int .i64 ((q : Int) - 1)] w fun e w' => e = .returned (.string (bs (rep [97, 44] (q - 1)))) ∧ w = w') := Lib.hid (by have e : ((q : Int) - 1) = ((q - 1 : Nat) : Int) := (by omega); rw [e]; exact A1.out)
  have A2' : Hid (∀ w, Calls Tryd.prog 25 #[.string ⟨#[97]⟩, .int .i64 (1 : Int)] w fun e w' => e = .returned (.string (bs (rep [97] (min q 1)))) ∧ w = w') := Lib.hid (by have e : (1 : Int) = ((min q 1 : Nat) : Int) := (by omega); rw [e]; exact A2.out)
  clear A1 A2
  generalize bs (rep [97, 44] (q - 1)) = S3 at *
  generalize bs (rep [97] (min q 1)) = S4 at *
  have qi1 : 5 ≤ (q : Int) := by omega
  have qi2 : (q : Int) ≤ 39 := by omega
  have mi1 : 4 ≤ (m : Int) := by omega
  have mi2 : (m : Int) ≤ 39 := by omega
  go_enter Tryd.func9, Tryd.ntmps9
  go_wp2_with fail
  refine (R1'.out _).mono ?_
  rintro e w' ⟨rfl, rfl⟩
  go_wp2_with fail
  refine (R2'.out _).mono ?_
  rintro e w' ⟨rfl, rfl⟩
  go_wp2_with fail
  refine (CT.out _ hw).mono ?_
  rintro e w1 (⟨t, p, cc, hO, rfl, hS, hn, hB⟩ | ⟨a, er, hO, rfl, hB⟩)
  · exfalso
    rcases OT.out with ⟨t', h1, _⟩ | ⟨_, h2⟩
    · omega
    · rw [hO] at h2; cases h2
  · have B1 := Lib.hid hB
    obtain ⟨e1, e2⟩ : a = 8 ∧ er = 3 := by
      rcases OT.out with ⟨t', h1, _⟩ | ⟨_, h2⟩
      · omega
      · rw [hO] at h2; injection h2 with h1 h2; exact ⟨h1, h2⟩
    subst e1 e2
    clear hO hB OT CT TX hz4
    go_upto_region 8 with fail
    have HB4 := Lib.hid (next0 B1.out (below_alloc w1 (.cells #[.string ⟨#[]⟩, .slice none 0 0] 31)))
    generalize (w1.alloc (.cells #[.string ⟨#[]⟩, .slice none 0 0] 31)) = W4 at *
    go_wp2_with fail
    refine (A1'.out _).mono ?_
    rintro e w' ⟨rfl, rfl⟩
    go_wp2_with fail
    refine (A2'.out _).mono ?_
    rintro e w' ⟨rfl, rfl⟩
    go_wp2_with fail
    refine (CA.out _ (hw.below HB4.out hw.1)).mono ?_
    rintro e w5 (⟨x, pp, pc, qq, qc, hO, rfl, hS, hB⟩ | ⟨a, er, hO, rfl, hB⟩)
    · exfalso
      rcases OA.out with ⟨x', h1, h2, h3, h4, h5⟩ | ⟨_, h⟩ | ⟨_, h⟩
      · first | omega | (rw [hO] at h3; cases h3)
      · rw [hO] at h; cases h
      · rw [hO] at h; cases h
    · have B5 := Lib.hid (next0 HB4.out hB)
      obtain ⟨e1, e2⟩ : a = 10 ∧ er = 5 := by
        rcases OA.out with ⟨x', h1, h2, h3, h4, h5⟩ | ⟨h1, h⟩ | ⟨h1, h⟩
        · rw [hO] at h3; cases h3
        · first | omega | (rw [hO] at h; injection h with h1 h2; exact ⟨h1, h2⟩)
        · first | omega | (rw [hO] at h; injection h with h1 h2; exact ⟨h1, h2⟩)
      subst e1 e2
      have TA := Lib.hid (fun w4 (g : Below w5.heap.size w5 w4) => HA.out w4 ((hw.below B5.out hw.1).below g (Nat.lt_of_lt_of_le hw.1 B5.out.size)))
      clear hO hB OA CA HA R1' R2' A1' A2'
      go_wp2_with fail
      refine (TA.out _ (below_alloc _ _)).mono ?_
      rintro e w6 ⟨rfl, g6⟩
      have B6 := Lib.hid (next0 (next0 B5.out (below_alloc w5 _)) g6)
      clear g6
      go_wp2_with fail
      go_ret
      exact ⟨rfl, B6.out⟩
theorem nests (n c : Int) (w : World) (hw : Wd w) (hn : 0 ≤ n ∧ n ≤ 255) (hc : 0 ≤ c ∧ c ≤ 255) : Calls Tryd.prog 9 #[.int .u8 n, .int .u8 c] w fun e w' => e = .returned (.bool true) ∧ Below w.heap.size w w' := by
  obtain ⟨m, hm⟩ : ∃ m : Nat, n % 40 = m := ⟨(n % 40).toNat, by omega⟩
  obtain ⟨q, hq⟩ : ∃ q : Nat, c % 40 = q := ⟨(c % 40).toNat, by omega⟩
  rcases Nat.lt_or_ge m 4 with h4 | h4
  · rcases Nat.eq_zero_or_pos q with h0 | h0
    · exact nests_lo_zero n c m q w hw hn.1 hn.2 hc.1 hc.2 hm hq h4 h0
    · rcases Nat.lt_or_ge q 5 with h5 | h5
      · rcases Nat.lt_or_ge q 2 with h2 | h2
        · exact nests_lo_one n c m q w hw hn.1 hn.2 hc.1 hc.2 hm hq h4 (by omega)
        · exact nests_lo_few n c m q w hw hn.1 hn.2 hc.1 hc.2 hm hq h4 h2 (by omega)
      · exact nests_lo_many n c m q w hw hn.1 hn.2 hc.1 hc.2 hm hq h4 h5 (by omega)
  · rcases Nat.eq_zero_or_pos q with h0 | h0
    · exact nests_hi_zero n c m q w hw hn.1 hn.2 hc.1 hc.2 hm hq h4 (by omega) h0
    · rcases Nat.lt_or_ge q 5 with h5 | h5
      · rcases Nat.lt_or_ge q 2 with h2 | h2
        · exact nests_hi_one n c m q w hw hn.1 hn.2 hc.1 hc.2 hm hq h4 (by omega) (by omega)
        · exact nests_hi_few n c m q w hw hn.1 hn.2 hc.1 hc.2 hm hq h4 (by omega) h2 (by omega)
      · exact nests_hi_many n c m q w hw hn.1 hn.2 hc.1 hc.2 hm hq h4 (by omega) h5 (by omega)
end ParL3b
end Go.Proofs.YtdalepdpobcpaaaDoor
