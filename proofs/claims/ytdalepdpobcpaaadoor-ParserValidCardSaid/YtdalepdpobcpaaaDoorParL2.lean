/- The walk of ParserLines. Condition: the reserved words lie as laid. -/
import Derived.Test.YtdalepdpobcpaaaDoorParAx
import Derived.Test.YtdalepdpobcpaaaDoorParLn
import Derived.Test.YtdalepdpobcpaaaDoorParAp
import Derived.Deep.RegionHeld3
import Derived.Deep.DeepCutAuto
import Derived.BigQuiet
namespace Go.Proofs.YtdalepdpobcpaaaDoor
open Go Go.RowKit
namespace ParL2
open Kit LexM TermM TermI TermU LexE LexF LexG LexP LexQ ParM ParA ParB ParC ParD ParK ParE ParF ParG ParH ParI ParW ParV ParX ParX2 ParX3 ParY ParN ParP ParQ ParAx ParLn ParAp
theorem cat3 (s u : ByteArray) : (s ++ ⟨#[10]⟩ ++ u).data.toList = s.data.toList ++ 10 :: u.data.toList := by simp
set_option maxRecDepth 100000 in
set_option maxHeartbeats 1600000 in
theorem lines_good (s u : ByteArray) (w : World) (hw : Wd w) (hs : s.size ≤ 1000) (hu : u.size ≤ 1000) (l m : List Rl) (h1 : wholeF (descF 129 []) s.data.toList = .good l []) (h2 : wholeF (descF 129 []) u.data.toList = .good m []) (hlm : l.length + m.length ≤ 128) :
    Calls Tryd.prog 7 #[.string s, .string u] w fun e w' => e = .returned (.bool true) ∧ Below w.heap.size w w' := by
  have HA := Lib.hid awake_any
  have C1 := Lib.hid (parse_any s w hw (by omega))
  have C2 := Lib.hid (fun w1 (h : Wd w1) => parse_any u w1 h (by omega))
  have hz1 : (s ++ ⟨#[10]⟩).size ≤ 1001 := by rw [ByteArray.size_append]; have : (⟨#[10]⟩ : ByteArray).size = 1 := rfl; omega
  have hz2 : Hid ((s ++ ⟨#[10]⟩ ++ u).size ≤ 140737488355328) := Lib.hid (by rw [ByteArray.size_append]; omega)
  have h3 := parse_lines s.data.toList u.data.toList (by simpa using hs) (by simpa using hu) l m h1 h2 hlm
  have C3 := Lib.hid (fun w1 (h : Wd w1) => by have := parse_any (s ++ ⟨#[10]⟩ ++ u) w1 h hz2.out; rw [cat3, h3] at this; exact this)
  rw [h1] at C1
  rw [h2] at C2
  clear h1 h2 h3
  have ls : ((l.length : Int) + (m.length : Int)) ≤ 128 := by omega
  go_enter Tryd.func7, Tryd.ntmps7
  go_wp2_with fail
  refine C1.out.mono ?_
  rintro e w1 (⟨l', p1, c1, hO, rfl, hS1, hB1⟩ | ⟨a, er, hO, rfl, hB⟩)
  case inr => cases hO
  injection hO with hO _
  subst hO
  have B1 := Lib.hid hB1
  have S1 := Lib.hid hS1
  have C2 := Lib.hid (C2.out w1 (hw.below hB1 hw.1))
  clear hB1 hS1 C1
  go_wp2_with fail
  refine C2.out.mono ?_
  rintro e w2 (⟨m', p2, c2, hO, rfl, hS2, hB2⟩ | ⟨a, er, hO, rfl, hB⟩)
  case inr => cases hO
  injection hO with hO _
  subst hO
  have B2 := Lib.hid (next0 B1.out hB2)
  have S2 := Lib.hid hS2
  have D2 := Lib.hid hB2
  have C3 := Lib.hid (C3.out w2 (hw.below B2.out hw.1))
  clear hB2 hS2 C2
  go_wp2_with fail
  refine C3.out.mono ?_
  rintro e w3 (⟨n', p3, c3, hO, rfl, hS3, hB3⟩ | ⟨a, er, hO, rfl, hB⟩)
  case inr => cases hO
  injection hO with hO _
  have HN := Lib.hid hO
  clear hO
  have B3 := Lib.hid (next0 B2.out hB3)
  have hsz3 : w2.heap.size ≤ w3.heap.size := hB3.size
  have S1' : Hid (RIn (· < w3.heap.size) w3 l (.slice p1 l.length c1)) := Lib.hid ((S1.out.keep (w' := w3) (fun b o hb => (next0 D2.out hB3).cell (p := ⟨b, o, none⟩) hb.2)).wide (ok' := (· < w3.heap.size)) (fun b hb => by have h1 : b < w1.heap.size := hb.2; have h2 := (next0 D2.out hB3).size; show b < w3.heap.size; omega))
  have S2' : Hid (RIn (· < w3.heap.size) w3 m (.slice p2 m.length c2)) := Lib.hid ((S2.out.keep (w' := w3) (fun b o hb => hB3.cell (p := ⟨b, o, none⟩) hb.2)).wide (ok' := (· < w3.heap.size)) (fun b hb => by have h1 : b < w2.heap.size := hb.2; have h2 := hB3.size; show b < w3.heap.size; omega))
  have S3' : Hid (RIn (· < w3.heap.size) w3 n' (.slice p3 n'.length c3)) := Lib.hid (hS3.wide (ok' := (· < w3.heap.size)) (fun b hb => hb.2))
  clear S1 S2 hS3 hB3 C3 D2 B1 B2 hsz3
  obtain ⟨L1, e1, R1⟩ := S1'.out
  obtain ⟨L2, e2, R2⟩ := S2'.out
  have hl1 : L1.length = l.length := by rw [← e1]; simp
  have hl2 : L2.length = m.length := by rw [← e2]; simp
  have one1 := Lib.hid (one_row R1)
  have one2 := Lib.hid (one_row R2)
  have Q1 := Lib.hid R1
  have Q2 := Lib.hid R2
  have HL := Lib.hid (And.intro hl1 hl2)
  have E1 := Lib.hid e1
  have E2 := Lib.hid e2
  have HLM := Lib.hid hlm
  obtain ⟨iR, hiR, hzR1, hzR2, hzR3⟩ := info_parts Tryd.infoR
  have IR := Lib.hid (And.intro hiR (And.intro hzR1 (And.intro hzR2 hzR3)))
  clear hiR hzR1 hzR2 hzR3 R1 R2 hl1 hl2 e1 e2 S1' S2' hlm
  go_upto_region 8 with fail
  obtain ⟨W4, hW4⟩ : ∃ W4, W4 = w3.alloc (.cells #[] 34) := ⟨_, rfl⟩
  have G4 : Gr w3 W4 := by rw [hW4]; exact Gr.alloc _ _
  have own0 : Hid (W4.ownsRow w3.heap.size 34 3 (.slice (some ⟨w3.heap.size, 0, none⟩) 0 0) 0 []) := Lib.hid (by rw [hW4]; exact World.ownsRow_lit w3 #[] 0 (Nat.le_refl _) (by decide) rfl)
  have Q1' : Hid (RowG KR (· < w3.heap.size) W4 L1 (.slice p1 l.length c1)) := Lib.hid (Q1.out.keep fun b o hb => G4.cell hb)
  have hw4 : w3.heap.size ≤ W4.heap.size := G4.size
  have GG4 := Lib.hid G4
  have HW4 := Lib.hid hW4
  clear hW4 G4
  have hm1 : 0 + L1.length ≤ maxLen := by have := HL.out; have := HLM.out; unfold maxLen; omega
  have hm2 : (0 + L1.length) * 64 ≤ 140737488355328 := by have := HL.out; have := HLM.out; omega
  have hm3 : L1.length + L2.length ≤ maxLen := by have := HL.out; have := HLM.out; unfold maxLen; omega
  have hm4 : (L1.length + L2.length) * 64 ≤ 140737488355328 := by have := HL.out; have := HLM.out; omega
  have M1 := Lib.hid hm1
  have M2 := Lib.hid hm2
  have M3 := Lib.hid hm3
  have M4 := Lib.hid hm4
  clear hm1 hm2 hm3 hm4 ls
  go_wp2_with (at_builtin; (try rw [← HW4.out]); refine wpList_held (by rfl) (fun K hK => ?_); refine wp_append_row (K := KR) (.tmp 67) (.tmp 68) 23 rfl w3.heap.size iR _ 64 Tryd.underlying23 IR.out.1 IR.out.2.1 IR.out.2.2.1 IR.out.2.2.2 rfl L1 one1.out (.slice (some ⟨w3.heap.size, 0, none⟩) 0 0) 0 [] rfl own0.out (· < w3.heap.size) _ rfl Q1'.out M1.out M2.out hw4 ?_)
  intro v1 w5 hown1 hgrow1
  refine hK _ _ ?_
  clear hK K
  (try simp only [Nat.zero_add, List.nil_append] at hown1)
  have G5 : Below w3.heap.size w3 w5 := GG4.out.1.trans ⟨hgrow1.os, hgrow1.tape, hgrow1.output, hgrow1.size, fun i hi => hgrow1.block i (Nat.lt_of_lt_of_le hi hw4) (fun e => by have h2 : i = w3.heap.size := Option.some.inj e; omega)⟩
  have O1 := Lib.hid hown1
  have hge1 := Lib.hid (own_ge hown1)
  have Q2' : Hid (RowG KR (· < w3.heap.size) w5 L2 (.slice p2 m.length c2)) := Lib.hid (Q2.out.keep fun b o hb => G5.cell (p := ⟨b, o, none⟩) hb)
  have hw5 : w3.heap.size ≤ w5.heap.size := G5.size
  have GG5 := Lib.hid G5
  clear hown1 hgrow1 G5 own0 Q1' GG4 hw4
  go_wp2_with (at_builtin; refine wpList_held (by rfl) (fun K hK => ?_); refine wp_append_row (K := KR) (.tmp 69) (.tmp 70) 23 rfl w3.heap.size iR _ 64 Tryd.underlying23 IR.out.1 IR.out.2.1 IR.out.2.2.1 IR.out.2.2.2 rfl L2 one2.out v1 L1.length (KR.flat L1) rfl O1.out (· < w3.heap.size) _ rfl Q2'.out M3.out M4.out hw5 ?_)
  intro v2 w6 hown2 hgrow2
  refine hK _ _ ?_
  clear hK K
  have G6 : Below w3.heap.size w3 w6 := GG5.out.trans ⟨hgrow2.os, hgrow2.tape, hgrow2.output, hgrow2.size, fun i hi => hgrow2.block i (Nat.lt_of_lt_of_le hi hw5) (fun e => by have := hge1.out i e.symm; omega)⟩
  have hw6 : w3.heap.size ≤ w6.heap.size := G6.size
  have X3 : RIn (· < w6.heap.size) w6 n' (.slice p3 n'.length c3) := (S3'.out.keep fun b o hb => G6.cell (p := ⟨b, o, none⟩) hb).wide fun b hb => Nat.lt_of_lt_of_le hb hw6
  have X4 : RIn (· < w6.heap.size) w6 n' v2 := by
    refine ⟨L1 ++ L2, by rw [List.map_append, E1.out, E2.out, HN.out], row_of_own (base := w3.heap.size) (by rw [List.length_append, flat_app]; exact hown2) (fun x hx => ?_) (fun g hg => (hown2.lt g hg).2)⟩
    rcases List.mem_append.1 hx with hx | hx
    · obtain ⟨_, _, _, _, _, hi, _⟩ := Q1.out
      exact KR.wide (KR.keep (hi x hx) fun b o hb => G6.cell (p := ⟨b, o, none⟩) hb) fun b hb => Nat.lt_of_lt_of_le hb hw6
    · obtain ⟨_, _, _, _, _, hi, _⟩ := Q2.out
      exact KR.wide (KR.keep (hi x hx) fun b o hb => G6.cell (p := ⟨b, o, none⟩) hb) fun b hb => Nat.lt_of_lt_of_le hb hw6
  have RR := Lib.hid (rules_of n' n' true (by simp) w6.heap.size w6 _ v2 (Nat.le_refl _) X3 X4)
  have B6 := Lib.hid (B3.out.trans (G6.mono B3.out.size))
  generalize n'.length = nn at *
  clear X3 X4 HN hown2 hgrow2 G6 Q2' O1 GG5 hge1 Q1 Q2 one1 one2 S3' HL E1 E2 HLM IR M1 M2 M3 M4 hw5 hw6 HW4
  go_wp2_with fail
  refine RR.out.mono ?_
  rintro e w7 ⟨rfl, g7⟩
  have B7 := Lib.hid (next0 B6.out g7.1)
  clear RR g7 B6
  go_wp2_with fail
  refine (HA.out _ (hw.below B7.out hw.1)).mono ?_
  rintro e w8 ⟨rfl, g8⟩
  have B8 := Lib.hid (next0 B7.out g8)
  clear g8 B7
  go_wp2_with fail
  go_ret
  exact ⟨rfl, B8.out⟩
set_option maxRecDepth 100000 in
set_option maxHeartbeats 1600000 in
theorem lines_long1 (s u : ByteArray) (w : World) (hw : Wd w) (hs : 1000 < s.size) :
    Calls Tryd.prog 7 #[.string s, .string u] w fun e w' => e = .returned (.bool true) ∧ Below w.heap.size w w' := by
  have HA := Lib.hid awake_any
  have hs1 : (1000 : Int) < (s.size : Int) := by omega
  go_enter Tryd.func7, Tryd.ntmps7
  go_wp2_with fail
  refine (HA.out w hw).mono ?_
  rintro e w8 ⟨rfl, g8⟩
  have B8 := Lib.hid (g8)
  clear g8
  go_wp2_with fail
  go_ret
  exact ⟨rfl, B8.out⟩
set_option maxRecDepth 100000 in
set_option maxHeartbeats 1600000 in
theorem lines_long2 (s u : ByteArray) (w : World) (hw : Wd w) (hs : s.size ≤ 1000) (hu : 1000 < u.size) :
    Calls Tryd.prog 7 #[.string s, .string u] w fun e w' => e = .returned (.bool true) ∧ Below w.heap.size w w' := by
  have HA := Lib.hid awake_any
  have hs1 : (s.size : Int) ≤ 1000 := by omega
  have hu1 : (1000 : Int) < (u.size : Int) := by omega
  go_enter Tryd.func7, Tryd.ntmps7
  go_wp2_with fail
  refine (HA.out w hw).mono ?_
  rintro e w8 ⟨rfl, g8⟩
  have B8 := Lib.hid (g8)
  clear g8
  go_wp2_with fail
  go_ret
  exact ⟨rfl, B8.out⟩
set_option maxRecDepth 100000 in
set_option maxHeartbeats 1600000 in
theorem lines_bad1 (s u : ByteArray) (w : World) (hw : Wd w) (hs : s.size ≤ 1000) (hu : u.size ≤ 1000) (a er : Int) (h1 : wholeF (descF 129 []) s.data.toList = .bad a er) :
    Calls Tryd.prog 7 #[.string s, .string u] w fun e w' => e = .returned (.bool true) ∧ Below w.heap.size w w' := by
  have HA := Lib.hid awake_any
  have C1 := Lib.hid (parse_any s w hw (by omega))
  have C2 := Lib.hid (fun w1 (h : Wd w1) => parse_any u w1 h (by omega))
  have hn := nz_whole (descF 129 []) (fun ts => nz_desc 129 [] ts rfl (by decide)) s.data.toList a er h1
  have he : (er != 0) = true := by rw [bne_iff_ne]; omega
  rw [h1] at C1
  clear h1 hn
  generalize wholeF (descF 129 []) u.data.toList = O2 at *
  go_enter Tryd.func7, Tryd.ntmps7
  go_wp2_with fail
  refine C1.out.mono ?_
  rintro e w1 (⟨l', p1, c1, hO, rfl, hS1, hB1⟩ | ⟨a', er', hO, rfl, hB1⟩)
  case inl => cases hO
  injection hO with e1 e2
  subst e1 e2
  have B1 := Lib.hid hB1
  have C2 := Lib.hid (C2.out w1 (hw.below hB1 hw.1))
  clear hB1 C1
  go_wp2_with fail
  refine C2.out.mono ?_
  rintro e w2 (⟨m', p2, c2, hO, rfl, hS2, hB2⟩ | ⟨a2, er2, hO, rfl, hB2⟩)
  all_goals
    have B2 := Lib.hid (next0 B1.out hB2)
    clear hB2 hO C2
    try clear hS2
    go_wp2_with fail
    refine (HA.out w2 (hw.below B2.out hw.1)).mono ?_
    rintro e w8 ⟨rfl, g8⟩
    have B8 := Lib.hid (next0 B2.out g8)
    clear g8
    go_wp2_with fail
    go_ret
    exact ⟨rfl, B8.out⟩
set_option maxRecDepth 100000 in
set_option maxHeartbeats 1600000 in
theorem lines_bad2 (s u : ByteArray) (w : World) (hw : Wd w) (hs : s.size ≤ 1000) (hu : u.size ≤ 1000) (l : List Rl) (h1 : wholeF (descF 129 []) s.data.toList = .good l []) (a er : Int) (h2 : wholeF (descF 129 []) u.data.toList = .bad a er) :
    Calls Tryd.prog 7 #[.string s, .string u] w fun e w' => e = .returned (.bool true) ∧ Below w.heap.size w w' := by
  have HA := Lib.hid awake_any
  have C1 := Lib.hid (parse_any s w hw (by omega))
  have C2 := Lib.hid (fun w1 (h : Wd w1) => parse_any u w1 h (by omega))
  have hn := nz_whole (descF 129 []) (fun ts => nz_desc 129 [] ts rfl (by decide)) u.data.toList a er h2
  have he : (er != 0) = true := by rw [bne_iff_ne]; omega
  rw [h1] at C1
  rw [h2] at C2
  clear h1 h2 hn
  go_enter Tryd.func7, Tryd.ntmps7
  go_wp2_with fail
  refine C1.out.mono ?_
  rintro e w1 (⟨l', p1, c1, hO, rfl, hS1, hB1⟩ | ⟨a', er', hO, rfl, hB1⟩)
  case inr => cases hO
  have B1 := Lib.hid hB1
  have C2 := Lib.hid (C2.out w1 (hw.below hB1 hw.1))
  clear hB1 C1 hO hS1
  generalize l'.length = nl at *
  go_wp2_with fail
  refine C2.out.mono ?_
  rintro e w2 (⟨m', p2, c2, hO, rfl, hS2, hB2⟩ | ⟨a2, er2, hO, rfl, hB2⟩)
  case inl => cases hO
  injection hO with e1 e2
  subst e1 e2
  have B2 := Lib.hid (next0 B1.out hB2)
  clear hB2 C2
  go_wp2_with fail
  refine (HA.out w2 (hw.below B2.out hw.1)).mono ?_
  rintro e w8 ⟨rfl, g8⟩
  have B8 := Lib.hid (next0 B2.out g8)
  clear g8
  go_wp2_with fail
  go_ret
  exact ⟨rfl, B8.out⟩
set_option maxRecDepth 100000 in
set_option maxHeartbeats 1600000 in
theorem lines_many (s u : ByteArray) (w : World) (hw : Wd w) (hs : s.size ≤ 1000) (hu : u.size ≤ 1000) (l m : List Rl) (h1 : wholeF (descF 129 []) s.data.toList = .good l []) (h2 : wholeF (descF 129 []) u.data.toList = .good m []) (hl : l.length ≤ 128) (hm : m.length ≤ 128) (hlm : ¬ l.length + m.length ≤ 128) :
    Calls Tryd.prog 7 #[.string s, .string u] w fun e w' => e = .returned (.bool true) ∧ Below w.heap.size w w' := by
  have HA := Lib.hid awake_any
  have C1 := Lib.hid (parse_any s w hw (by omega))
  have C2 := Lib.hid (fun w1 (h : Wd w1) => parse_any u w1 h (by omega))
  rw [h1] at C1
  rw [h2] at C2
  clear h1 h2
  go_enter Tryd.func7, Tryd.ntmps7
  go_wp2_with fail
  refine C1.out.mono ?_
  rintro e w1 (⟨l', p1, c1, hO, rfl, hS1, hB1⟩ | ⟨a', er', hO, rfl, hB1⟩)
  case inr => cases hO
  injection hO with hO _
  subst hO
  have B1 := Lib.hid hB1
  have C2 := Lib.hid (C2.out w1 (hw.below hB1 hw.1))
  have hl9 : l.length ≤ 9223372036854775807 := by omega
  clear hB1 C1 hS1
  go_wp2_with fail
  refine C2.out.mono ?_
  rintro e w2 (⟨m', p2, c2, hO, rfl, hS2, hB2⟩ | ⟨a2, er2, hO, rfl, hB2⟩)
  case inr => cases hO
  injection hO with hO _
  subst hO
  have B2 := Lib.hid (next0 B1.out hB2)
  clear hB2 C2 hS2
  have lm : (128 : Int) < (l.length : Int) + (m.length : Int) := by omega
  have lm2 : (l.length : Int) + (m.length : Int) ≤ 100000 := by omega
  go_wp2_with fail
  refine (HA.out w2 (hw.below B2.out hw.1)).mono ?_
  rintro e w8 ⟨rfl, g8⟩
  have B8 := Lib.hid (next0 B2.out g8)
  clear g8
  go_wp2_with fail
  go_ret
  exact ⟨rfl, B8.out⟩
/-- No more than 128 rules are read. -/
theorem desc_most : ∀ (n : Nat) (l : List Rl) (ts : List GTok) (l' : List Rl) (r : List GTok), l.length + n = 129 → l.length ≤ 128 → descF n l ts = .good l' r → l'.length ≤ 128
  | 0, l, ts, l', r, _, _, h => by cases h
  | n + 1, l, ts, l', r, hl, h8, h => by
    rw [descF] at h
    split at h
    · cases h; exact h8
    · split at h
      · cases h
      · rename_i c2
        cases hR : ruleF ts with
        | bad a e => rw [hR] at h; cases h
        | good x r1 =>
          rw [hR] at h
          refine desc_most n (l ++ [x]) _ l' r (by simp; omega) ?_ h
          rcases Nat.lt_or_ge l.length 128 with h1 | h1
          · simp; omega
          · exfalso
            have h2 : l.length = 128 := by omega
            have hb : atomB (hd ts) = false := by
              cases hc : atomB (hd ts) with
              | false => rfl
              | true => exact absurd (by simp [h2, hc]) c2
            obtain ⟨a, e, he⟩ := rule_bad hb
            rw [he] at hR
            cases hR
theorem parse_most {l : List UInt8} {x : List Rl} {r : List GTok} (h : wholeF (descF 129 []) l = .good x r) : x.length ≤ 128 := by
  obtain ⟨_, r', h1, _⟩ := whole_good h
  exact desc_most 129 [] _ x r' rfl (by decide) h1
theorem lines_law (s u : ByteArray) (w : World) (hw : Wd w) : Calls Tryd.prog 7 #[.string s, .string u] w fun e w' => e = .returned (.bool true) ∧ Below w.heap.size w w' := by
  rcases Nat.lt_or_ge 1000 s.size with hs | hs
  · exact lines_long1 s u w hw hs
  rcases Nat.lt_or_ge 1000 u.size with hu | hu
  · exact lines_long2 s u w hw hs hu
  cases h1 : wholeF (descF 129 []) s.data.toList with
  | bad a er => exact lines_bad1 s u w hw hs hu a er h1
  | good l r =>
    obtain ⟨_, _, _, _, rfl⟩ := whole_good h1
    cases h2 : wholeF (descF 129 []) u.data.toList with
    | bad a er => exact lines_bad2 s u w hw hs hu l h1 a er h2
    | good m r =>
      obtain ⟨_, _, _, _, rfl⟩ := whole_good h2
      by_cases hlm : l.length + m.length ≤ 128
      · exact lines_good s u w hw hs hu l m h1 h2 hlm
      · exact lines_many s u w hw hs hu l m h1 h2 (parse_most h1) (parse_most h2) hlm
end ParL2
end Go.Proofs.YtdalepdpobcpaaaDoor
