/- Texts laid together: UnmL; TermJ; UnnA. Their own heads stand before each. -/
import Derived.Test.YtjfgnmmcdgpiiaaGreatDoorGA4
import Derived.Test.YtjfgnmmcdgpiiaaGreatDoorTermEq
import Derived.Deep.RegionHeld3
import Derived.Deep.RegionLaw
import Derived.Deep.DeepCutAuto
import Derived.Test.YtjfgnmmcdgpiiaaGreatDoorTermT
import Derived.Deep.DeepHandedRow
import Derived.Lib.LaidTab
import Derived.LaidSub
import Derived.OpenShut
import Derived.Deep.RegionHeld
import Derived.Lib.LaidU8
import Derived.ChangeMaps5
/- awake: the chapter's examples; made by genunml.py. Condition: the variable nameEnds holds its bytes. -/
namespace Go.Proofs.YtjfgnmmcdgpiiaaGreatDoor
open Go Go.RowKit
namespace UnmL
open LexM TermM TermI Kit TermN TermU TermL TermE TermF UniK UniM UniA UniC UniD UniE UniF UniO UniL UniP UniQ UniV TermT UnmA UnmE UnmF UnmG UnmH UnmI UnmJ UnmK
theorem c_f (n a b : ByteArray) (ha : a.size ≤ maxLen) (hb : b.size ≤ maxLen) (w : World) : Calls Tryz.prog 37 #[.string n, .agg #[.string a, .slice none 0 0], .agg #[.string b, .slice none 0 0]] w (TwR n [.mk a [], .mk b []] w) :=
  func2_any n (.mk a []) (.mk b []) 0 w none none 0 0 (Nat.zero_le _) (SlIn.none _ _) (SlIn.none _ _) ha hb
theorem sin_has {ok : Nat → Prop} {w : World} {g : Nat} (L : List (Bd × Value)) (hH : Has w g (KB.flat L).toArray) (hI : ∀ x ∈ L, KB.inn ok w x) (hg : ok g) (hl : L.length ≤ maxLen) : SIn ok w (L.map (·.1)) (.slice (some ⟨g, 0, none⟩) L.length L.length) := by
  refine ⟨L, rfl, some ⟨g, 0, none⟩, L.length, rfl, Nat.le_refl _, hl, hI, fun _ => ⟨g, 0, rfl, hg, fun i x hx j u hu => ?_⟩⟩
  rw [Nat.zero_add, hH.cell]
  have := flat_get (K := KB) L i x hx j u hu
  simpa using this
theorem sin_two (w : World) (g : Nat) (a b s t : ByteArray) (ha : a.size ≤ maxLen) (hb : b.size ≤ maxLen) (hs : s.size ≤ maxLen) (ht : t.size ≤ maxLen) (hg : g < w.heap.size)
    (hH : Has w g #[.string a, .string s, .slice none 0 0, .string b, .string t, .slice none 0 0]) : SIn (· < w.heap.size) w [(a, .mk s []), (b, .mk t [])] (.slice (some ⟨g, 0, none⟩) 2 2) := by
  refine sin_has [((a, .mk s []), .slice none 0 0), ((b, .mk t []), .slice none 0 0)] hH ?_ hg (by unfold maxLen; simp)
  intro x hx
  rcases List.mem_cons.1 hx with rfl | hx
  · exact ⟨SlIn.none _ _, hs, ha⟩
  · obtain rfl := List.mem_singleton.1 hx
    exact ⟨SlIn.none _ _, ht, hb⟩
theorem c_t (l : List Tm) (n : ByteArray) (_hl : l.length = 2) (w : World) (p q : Option Addr) (c d : Nat) (h1 : SlIn (· < w.heap.size) w l (.slice p 2 c)) (h2 : SlIn (· < w.heap.size) w l (.slice q 2 d)) :
    Calls Tryz.prog 18 #[.agg #[.string n, .slice p 2 c], .agg #[.string n, .slice q 2 d]] w fun e w' => e = .returned (.bool true) ∧ Gr w w' :=
  TermEq.term_any (.mk n l) true w.heap.size w _ (.mk n l) _ (by simp) (Nat.le_refl _) h1 h2
set_option maxRecDepth 100000 in
set_option maxHeartbeats 3200000 in
theorem awake_any (w : World) (hw : Wd w) : Calls Tryz.prog 13 #[] w fun e w' => e = .returned (.bool true) ∧ Below w.heap.size w w' := by
  obtain ⟨W3, hW3⟩ : ∃ W3, W3 = ((w.alloc (.cells #[.string ⟨#[97]⟩, .slice none 0 0] 27)).alloc (.cells #[.string ⟨#[88]⟩, .slice none 0 0] 27)).alloc (.cells #[.string ⟨#[89]⟩, .slice none 0 0] 27) := ⟨_, rfl⟩
  have B3 : Hid (Below w.heap.size w W3) := Lib.hid (by rw [hW3]; exact next0 (next0 (below_alloc _ _) (below_alloc _ _)) (below_alloc _ _))
  have A3 : Hid (Has W3 w.heap.size #[.string ⟨#[97]⟩, .slice none 0 0]) := Lib.hid (by rw [hW3]; exact ((Has.new w _ _).alloc _).alloc _)
  have X3 : Hid (Has W3 (w.heap.size + 1) #[.string ⟨#[88]⟩, .slice none 0 0]) := Lib.hid (by rw [hW3]; exact (Has.new1 w _ _ _).alloc _)
  have Y3 : Hid (Has W3 (w.heap.size + 1 + 1) #[.string ⟨#[89]⟩, .slice none 0 0]) := Lib.hid (by rw [hW3]; exact Has.new2 w _ _ _ _)
  have HWD := Lib.hid (fun w' (k : Below w.heap.size w w') => hw.below k hw.1)
  have F2 := Lib.hid (fun w' => c_f ⟨#[112]⟩ ⟨#[88]⟩ ⟨#[89]⟩ (by decide) (by decide) w')
  unfold TwR at F2
  clear hw
  obtain ⟨x1, x2, _⟩ := X3.out.two
  obtain ⟨y1, y2, _⟩ := Y3.out.two
  go_enter Tryz.func13, Tryz.ntmps13
  go_upto_region 2 with fail
  rw [← hW3]
  clear hW3
  go_wp2_with fail
  refine (F2.out _).mono ?_
  rintro e w4 ⟨pP, cP, rfl, s4, b4⟩
  obtain ⟨W5, hW5⟩ : ∃ W5, W5 = w4.alloc (.cells #[.string ⟨#[112]⟩, .slice pP 2 cP] 27) := ⟨_, rfl⟩
  have B5 : Hid (Below W3.heap.size W3 W5) := Lib.hid (by rw [hW5]; exact next0 b4 (below_alloc _ _))
  have P5 : Hid (Has W5 w4.heap.size #[.string ⟨#[112]⟩, .slice pP 2 cP]) := Lib.hid (by rw [hW5]; exact Has.new _ _ _)
  have SP := Lib.hid (fun w' (k : Below W5.heap.size W5 w') => show SlIn (· < w'.heap.size) w' [tX, tY] (.slice pP 2 cP) from by
    have k4 : Below w4.heap.size w4 w' := by rw [hW5] at k; exact next0 (below_alloc _ _) k
    exact (s4.deep k4 (Nat.le_refl _)).weaken fun b hb => Nat.lt_of_lt_of_le hb k4.size)
  have BW := Lib.hid (next0 B3.out B5.out)
  have HH5 := Lib.hid (fun w' (k : Below W5.heap.size W5 w') => show w'.cell? ⟨w.heap.size, 0, none⟩ = some (.string ⟨#[97]⟩) ∧ w'.cell? ⟨w.heap.size, 1, none⟩ = some (.slice none 0 0) ∧ w'.cell? ⟨w.heap.size + 1, 0, none⟩ = some (.string ⟨#[88]⟩) ∧ w'.cell? ⟨w.heap.size + 1, 1, none⟩ = some (.slice none 0 0) ∧ w'.cell? ⟨w.heap.size + 1 + 1, 0, none⟩ = some (.string ⟨#[89]⟩) ∧ w'.cell? ⟨w.heap.size + 1 + 1, 1, none⟩ = some (.slice none 0 0) ∧ w'.cell? ⟨w4.heap.size, 0, none⟩ = some (.string ⟨#[112]⟩) ∧ w'.cell? ⟨w4.heap.size, 1, none⟩ = some (.slice pP 2 cP) from by
    have k3 := next0 B5.out k
    obtain ⟨a1, a2, _⟩ := (A3.out.step0 k3).two
    obtain ⟨b1, b2, _⟩ := (X3.out.step0 k3).two
    obtain ⟨c1, c2, _⟩ := (Y3.out.step0 k3).two
    obtain ⟨d1, d2, _⟩ := (P5.out.step0 k).two
    exact ⟨a1, a2, b1, b2, c1, c2, d1, d2⟩)
  have CU1 := Lib.hid (fun w' (k : Below W5.heap.size W5 w') q d h => c_u1 w' (HWD.out w' (next0 BW.out k)) pP q cP d (SP.out w' k) h)
  have CM1 := Lib.hid (fun w' (k : Below W5.heap.size W5 w') q d h => c_m w' pP q cP d (SP.out w' k) h)
  have CU2 := Lib.hid (fun w' (k : Below W5.heap.size W5 w') q d h => c_u2 w' (HWD.out w' (next0 BW.out k)) q d h)
  have CA1 := Lib.hid (fun w' (k : Below W5.heap.size W5 w') sv h => c_a w' sv pP cP h (SP.out w' k))
  have CR1 := Lib.hid (fun w' (k : Below W5.heap.size W5 w') => c_r w' pP cP (SP.out w' k))
  unfold TwR at CA1
  have K2 : Hid (Below W5.heap.size W5 W5) := Lib.hid (Below.refl _ _)
  clear x1 x2 y1 y2 s4 b4 F2 A3 X3 Y3 P5 B3 B5 HWD SP
  go_upto_region 3 with fail
  rw [← hW5]
  clear hW5
  have F3 := Lib.hid (fun w' => c_f ⟨#[112]⟩ ⟨#[89]⟩ ⟨#[97]⟩ (by decide) (by decide) w')
  unfold TwR at F3
  obtain ⟨x1, x2, x3, x4, x5, x6, x7, x8⟩ := HH5.out _ K2.out
  go_cut [5, 6] (fun s5 s6 wx => s6 = .bool true ∧ Hid (SIn (· < wx.heap.size) wx both s5) ∧ Hid (Below W5.heap.size W5 wx))
  case first =>
    go_region_law (first
      | (go_simp; go_at_call 37; (with_reducible refine (F3.out _).mono ?_); rintro e w6 ⟨q6, d6, rfl, s6, b6⟩; have K6 : Hid (Below W5.heap.size W5 w6) := Lib.hid (by first | exact next0 K2.out b6 | exact next0 K2.out.drew b6 | exact next0 (below_drewN K2.out _) b6); have S6 := Lib.hid s6; clear s6 b6 x1 x2 x3 x4 x5 x6 x7 x8; obtain ⟨x1, x2, x3, x4, x5, x6, x7, x8⟩ := HH5.out _ K6.out)
      | (go_simp; go_at_call 29; (with_reducible refine (CU1.out _ (by first | exact K6.out | exact K6.out.drew | exact below_drewN K6.out _) _ _ (by first | exact S6.out | exact S6.out.frame (fun _ _ _ => rfl))).mono ?_); rintro e w7 ⟨v7, rfl, h7, b7⟩; have K7 : Hid (Below W5.heap.size W5 w7) := Lib.hid (by first | exact next0 K6.out b7 | exact next0 K6.out.drew b7 | exact next0 (below_drewN K6.out _) b7); have S7 := Lib.hid h7; clear h7 b7))
    all_goals
      go_wp2_with fail
      go_meet
      exact ⟨rfl, S7, K7⟩
  case rest =>
    obtain ⟨rfl, SA, K3⟩ := hcut
    obtain ⟨wa, hwa⟩ : ∃ wa, wa = wc := ⟨_, rfl⟩
    rw [← hwa] at SA K3 ⊢
    clear hwa
    clear x1 x2 x3 x4 x5 x6 x7 x8 F3 K2
    have F4 := Lib.hid (fun w' => c_f ⟨#[112]⟩ ⟨#[97]⟩ ⟨#[97]⟩ (by decide) (by decide) w')
    unfold TwR at F4
    go_upto_region 4 with fail
    obtain ⟨x1, x2, x3, x4, x5, x6, x7, x8⟩ := HH5.out _ K3.out
    go_cut [7, 8] (fun s7 s8 wx => s8 = .bool true ∧ Hid (SIn (· < wx.heap.size) wx both s7) ∧ Hid (Below wa.heap.size wa wx) ∧ Hid (Below W5.heap.size W5 wx))
    case first =>
      go_region_law (first
        | (go_simp; go_at_call 37; (with_reducible refine (F4.out _).mono ?_); rintro e w6 ⟨q6, d6, rfl, s6, b6⟩; have K6 : Hid (Below W5.heap.size W5 w6) := Lib.hid (by first | exact next0 K3.out b6 | exact next0 K3.out.drew b6 | exact next0 (below_drewN K3.out _) b6); have R6 : Hid (Below wa.heap.size wa w6) := Lib.hid (by first | exact b6 | exact next0 (Below.refl _ _).drew b6 | exact next0 (below_drewN (Below.refl _ _) _) b6); have S6 := Lib.hid s6; clear s6 b6 x1 x2 x3 x4 x5 x6 x7 x8; obtain ⟨x1, x2, x3, x4, x5, x6, x7, x8⟩ := HH5.out _ K6.out)
        | (go_simp; go_at_call 26; (with_reducible refine (CM1.out _ (by first | exact K6.out | exact K6.out.drew | exact below_drewN K6.out _) _ _ (by first | exact S6.out | exact S6.out.frame (fun _ _ _ => rfl))).mono ?_); rintro e w7 ⟨v7, rfl, h7, b7⟩; have K7 : Hid (Below W5.heap.size W5 w7) := Lib.hid (by first | exact next0 K6.out b7 | exact next0 K6.out.drew b7 | exact next0 (below_drewN K6.out _) b7); have R7 : Hid (Below wa.heap.size wa w7) := Lib.hid (by first | exact next0 R6.out b7 | exact next0 R6.out.drew b7 | exact next0 (below_drewN R6.out _) b7); have S7 := Lib.hid h7; clear h7 b7))
      all_goals
        go_wp2_with fail
        go_meet
        exact ⟨rfl, S7, R7, K7⟩
    case rest =>
      obtain ⟨rfl, SB, R4, K4⟩ := hcut
      obtain ⟨wb, hwb⟩ : ∃ wb, wb = wc := ⟨_, rfl⟩
      rw [← hwb] at SB R4 K4 ⊢
      clear hwb
      clear x1 x2 x3 x4 x5 x6 x7 x8 F4
      have F5 := Lib.hid (fun w' => c_f ⟨#[102]⟩ ⟨#[88]⟩ ⟨#[97]⟩ (by decide) (by decide) w')
      unfold TwR at F5
      go_upto_region 5 with fail
      obtain ⟨x1, x2, x3, x4, x5, x6, x7, x8⟩ := HH5.out _ K4.out
      go_cut [9, 10] (fun s9 s10 wx => s10 = .bool false ∧ Hid (Below wb.heap.size wb wx) ∧ Hid (Below W5.heap.size W5 wx))
      case first =>
        go_region_law (first
          | (go_simp; go_at_call 37; (with_reducible refine (F5.out _).mono ?_); rintro e w6 ⟨q6, d6, rfl, s6, b6⟩; have K6 : Hid (Below W5.heap.size W5 w6) := Lib.hid (by first | exact next0 K4.out b6 | exact next0 K4.out.drew b6 | exact next0 (below_drewN K4.out _) b6); have R6 : Hid (Below wb.heap.size wb w6) := Lib.hid (by first | exact b6 | exact next0 (Below.refl _ _).drew b6 | exact next0 (below_drewN (Below.refl _ _) _) b6); have S6 := Lib.hid s6; clear s6 b6 x1 x2 x3 x4 x5 x6 x7 x8; obtain ⟨x1, x2, x3, x4, x5, x6, x7, x8⟩ := HH5.out _ K6.out)
          | (go_simp; go_at_call 29; (with_reducible refine (CU2.out _ (by first | exact K6.out | exact K6.out.drew | exact below_drewN K6.out _) _ _ (by first | exact S6.out | exact S6.out.frame (fun _ _ _ => rfl))).mono ?_); rintro e w7 ⟨rfl, b7⟩; have K7 : Hid (Below W5.heap.size W5 w7) := Lib.hid (by first | exact next0 K6.out b7 | exact next0 K6.out.drew b7 | exact next0 (below_drewN K6.out _) b7); have R7 : Hid (Below wb.heap.size wb w7) := Lib.hid (by first | exact next0 R6.out b7 | exact next0 R6.out.drew b7 | exact next0 (below_drewN R6.out _) b7); clear b7))
        all_goals
          go_wp2_with fail
          go_meet
          exact ⟨rfl, R7, K7⟩
      case rest =>
        obtain ⟨rfl, R5, K5⟩ := hcut
        obtain ⟨wd, hwd⟩ : ∃ wd, wd = wc := ⟨_, rfl⟩
        rw [← hwd] at R5 K5 ⊢
        clear hwd
        clear x1 x2 x3 x4 x5 x6 x7 x8 F5 CU1 CU2 CM1
        have RA5 := Lib.hid (next0 R4.out R5.out)
        obtain ⟨W8, hW8⟩ : ∃ W8, W8 = wd.alloc (.cells #[.string ⟨#[88]⟩, .string ⟨#[89]⟩, .slice none 0 0, .string ⟨#[89]⟩, .string ⟨#[97]⟩, .slice none 0 0] 52) := ⟨_, rfl⟩
        have D8 : Hid (Below wd.heap.size wd W8) := Lib.hid (by rw [hW8]; exact below_alloc _ _)
        have hs8 : wd.heap.size < W8.heap.size := by rw [hW8]; simp
        have CA2 := Lib.hid (CA1.out W8 (next0 K5.out D8.out) (.slice (some ⟨wd.heap.size, 0, none⟩) 2 2) (sin_two W8 wd.heap.size ⟨#[88]⟩ ⟨#[89]⟩ ⟨#[89]⟩ ⟨#[97]⟩ (by decide) (by decide) (by decide) (by decide) hs8 (by rw [hW8]; exact Has.new _ _ _)))
        obtain ⟨x1, x2, x3, x4, x5, x6, x7, x8⟩ := HH5.out _ K5.out
        have z7 : W8.cell? ⟨w4.heap.size, 0, none⟩ = some (.string ⟨#[112]⟩) := (HH5.out _ (next0 K5.out D8.out)).2.2.2.2.2.2.1
        have z8 : W8.cell? ⟨w4.heap.size, 1, none⟩ = some (.slice pP 2 cP) := (HH5.out _ (next0 K5.out D8.out)).2.2.2.2.2.2.2
        rw [hW8] at z7 z8
        go_wp2_with fail
        rw [← hW8]
        clear hW8 CA1 z7 z8 x1 x2 x3 x4 x5 x6 x7 x8
        refine CA2.out.mono ?_
        rintro e w9 ⟨pT, cT, rfl, sT, b9⟩
        obtain ⟨W10, hW10⟩ : ∃ W10, W10 = w9.alloc (.cells #[.string ⟨#[112]⟩, .slice pT 2 cT] 27) := ⟨_, rfl⟩
        have D10 : Hid (Below wd.heap.size wd W10) := Lib.hid (by rw [hW10]; exact next0 (next0 D8.out b9) (below_alloc _ _))
        have T10 : Hid (Has W10 w9.heap.size #[.string ⟨#[112]⟩, .slice pT 2 cT]) := Lib.hid (by rw [hW10]; exact Has.new _ _ _)
        have ST := Lib.hid (fun w' (k : Below W10.heap.size W10 w') => show SlIn (· < w'.heap.size) w' [tY, tA] (.slice pT 2 cT) from by
          have k4 : Below w9.heap.size w9 w' := by rw [hW10] at k; exact next0 (below_alloc _ _) k
          exact (sT.deep k4 (Nat.le_refl _)).weaken fun b hb => Nat.lt_of_lt_of_le hb k4.size)
        obtain ⟨x1, x2, x3, x4, x5, x6, x7, x8⟩ := HH5.out _ (next0 K5.out D10.out)
        clear sT b9 CA2 D8
        go_upto_region 7 with fail
        rw [← hW10]
        clear hW10
        obtain ⟨W11, hW11⟩ : ∃ W11, W11 = W10.alloc (.cells #[.string ⟨#[88]⟩, .string ⟨#[97]⟩, .slice none 0 0, .string ⟨#[89]⟩, .string ⟨#[97]⟩, .slice none 0 0] 52) := ⟨_, rfl⟩
        have D11 : Hid (Below W10.heap.size W10 W11) := Lib.hid (by rw [hW11]; exact below_alloc _ _)
        have hs11 : W10.heap.size < W11.heap.size := by rw [hW11]; simp
        have SBo := Lib.hid (fun w' (k : Below W11.heap.size W11 w') => sin_two w' W10.heap.size ⟨#[88]⟩ ⟨#[89]⟩ ⟨#[97]⟩ ⟨#[97]⟩ (by decide) (by decide) (by decide) (by decide) (Nat.lt_of_lt_of_le hs11 k.size) (by have h : Has W11 W10.heap.size #[.string ⟨#[88]⟩, .string ⟨#[97]⟩, .slice none 0 0, .string ⟨#[89]⟩, .string ⟨#[97]⟩, .slice none 0 0] := (by rw [hW11]; exact Has.new _ _ _); exact h.step0 k))
        go_upto_region 8 with fail
        rw [← hW11]
        clear hW11 x1 x2 x3 x4 x5 x6 x7 x8
        have K11 := Lib.hid (next0 (next0 K5.out D10.out) D11.out)
        obtain ⟨x1, x2, x3, x4, x5, x6, x7, x8⟩ := HH5.out _ K11.out
        go_wp2_with fail
        refine (CR1.out _ K11.out).mono ?_
        rintro e w12 ⟨pR, cR, rfl, sR, b12⟩
        obtain ⟨W13, hW13⟩ : ∃ W13, W13 = w12.alloc (.cells #[.string ⟨#[112]⟩, .slice pR 2 cR, .slice none 0 0] 34) := ⟨_, rfl⟩
        have D13 : Hid (Below W11.heap.size W11 W13) := Lib.hid (by rw [hW13]; exact next0 b12 (below_alloc _ _))
        have R13 : Hid (Has W13 w12.heap.size #[.string ⟨#[112]⟩, .slice pR 2 cR, .slice none 0 0]) := Lib.hid (by rw [hW13]; exact Has.new _ _ _)
        have SR := Lib.hid (fun w' (k : Below W13.heap.size W13 w') => show SlIn (· < w'.heap.size) w' [.mk ⟨#[86, 49]⟩ [], .mk ⟨#[86, 50]⟩ []] (.slice pR 2 cR) from by
          have k4 : Below w12.heap.size w12 w' := by rw [hW13] at k; exact next0 (below_alloc _ _) k
          exact (sR.deep k4 (Nat.le_refl _)).weaken fun b hb => Nat.lt_of_lt_of_le hb k4.size)
        have KA := Lib.hid (next0 (next0 RA5.out (next0 D10.out D11.out)) D13.out)
        have KB9 := Lib.hid (next0 (next0 R5.out (next0 D10.out D11.out)) D13.out)
        have K13 := Lib.hid (next0 K11.out D13.out)
        have D1013 := Lib.hid (next0 D11.out D13.out)
        clear sR b12 x1 x2 x3 x4 x5 x6 x7 x8 CR1
        go_upto_region 9 with fail
        rw [← hW13]
        clear hW13
        have CS1 := Lib.hid (fun w' (k : Below W13.heap.size W13 w') => same_any both both true (by simp) w'.heap.size w' u5 (.slice (some ⟨W10.heap.size, 0, none⟩) 2 2) (Nat.le_refl _) ((SA.out.deep (next0 KA.out k) (Nat.le_refl _)).wide fun b hb => Nat.lt_of_lt_of_le hb (next0 KA.out k).size) (SBo.out w' (next0 D13.out k)))
        have CS2 := Lib.hid (fun w' (k : Below W13.heap.size W13 w') => same_any both both true (by simp) w'.heap.size w' u7 (.slice (some ⟨W10.heap.size, 0, none⟩) 2 2) (Nat.le_refl _) ((SB.out.deep (next0 KB9.out k) (Nat.le_refl _)).wide fun b hb => Nat.lt_of_lt_of_le hb (next0 KB9.out k).size) (SBo.out w' (next0 D13.out k)))
        have CV1 := Lib.hid (fun w' (k : Below W13.heap.size W13 w') => cvalid_any both w'.heap.size w' (.slice (some ⟨W10.heap.size, 0, none⟩) 2 2) (Nat.le_refl _) (SBo.out w' (next0 D13.out k)))
        rw [d1] at CV1
        have CT1 := Lib.hid (fun w' q d (k : Below W13.heap.size W13 w') h => c_t [tY, tA] ⟨#[112]⟩ rfl w' pT q cT d (ST.out w' (next0 D1013.out k)) h)
        have CT2 := Lib.hid (fun w' q d (k : Below W13.heap.size W13 w') h => c_t [.mk ⟨#[86, 49]⟩ [], .mk ⟨#[86, 50]⟩ []] ⟨#[112]⟩ rfl w' pR q cR d (SR.out w' k) h)
        have F7 := Lib.hid (fun w' => c_f ⟨#[112]⟩ ⟨#[89]⟩ ⟨#[97]⟩ (by decide) (by decide) w')
        have F8 := Lib.hid (fun w' => c_f ⟨#[112]⟩ ⟨#[86, 49]⟩ ⟨#[86, 50]⟩ (by decide) (by decide) w')
        unfold TwR at F7 F8
        have Hb := Lib.hid (fun w' (k : Below W13.heap.size W13 w') => show w'.cell? ⟨w9.heap.size, 0, none⟩ = some (.string ⟨#[112]⟩) ∧ w'.cell? ⟨w9.heap.size, 1, none⟩ = some (.slice pT 2 cT) ∧ w'.cell? ⟨w.heap.size + 1 + 1, 0, none⟩ = some (.string ⟨#[89]⟩) ∧ w'.cell? ⟨w.heap.size + 1 + 1, 1, none⟩ = some (.slice none 0 0) ∧ w'.cell? ⟨w.heap.size, 0, none⟩ = some (.string ⟨#[97]⟩) ∧ w'.cell? ⟨w.heap.size, 1, none⟩ = some (.slice none 0 0) ∧ w'.cell? ⟨w12.heap.size, 0, none⟩ = some (.string ⟨#[112]⟩) ∧ w'.cell? ⟨w12.heap.size, 1, none⟩ = some (.slice pR 2 cR) ∧ Hid (Below W13.heap.size W13 w') from by
          obtain ⟨x1, x2, x3, x4, x5, x6, x7, x8⟩ := HH5.out _ (next0 K13.out k)
          obtain ⟨t1, t2, _⟩ := (T10.out.step0 (next0 D1013.out k)).two
          obtain ⟨r1, r2, r3⟩ := three (R13.out.step0 k)
          exact ⟨t1, t2, x5, x6, x1, x2, r1, r2, Lib.hid k⟩)
        have FIN := Lib.hid (fun w' (k : Below W13.heap.size W13 w') => next0 (next0 BW.out K13.out) k)
        have hs0 := Hb.out _ (Below.refl W13.heap.size W13).drew
        clear SA SB SBo ST SR HH5 T10 R13 RA5 KA KB9 K13 D1013 D13 K11 D11 D10 K5 R5 R4 K4 K3 BW hs11
        refine wp_region_held_drew (S := (fun w' => w'.cell? ⟨w9.heap.size, 0, none⟩ = some (.string ⟨#[112]⟩) ∧ w'.cell? ⟨w9.heap.size, 1, none⟩ = some (.slice pT 2 cT) ∧ w'.cell? ⟨w.heap.size + 1 + 1, 0, none⟩ = some (.string ⟨#[89]⟩) ∧ w'.cell? ⟨w.heap.size + 1 + 1, 1, none⟩ = some (.slice none 0 0) ∧ w'.cell? ⟨w.heap.size, 0, none⟩ = some (.string ⟨#[97]⟩) ∧ w'.cell? ⟨w.heap.size, 1, none⟩ = some (.slice none 0 0) ∧ w'.cell? ⟨w12.heap.size, 0, none⟩ = some (.string ⟨#[112]⟩) ∧ w'.cell? ⟨w12.heap.size, 1, none⟩ = some (.slice pR 2 cR) ∧ Hid (Below W13.heap.size W13 w'))) (by kernel_rfl) hs0 (fun hHeld => ?_)
        refine wpAnyH_take (i := 0) (v := ?_) rfl (by kernel_rfl) (by kernel_rfl) (by kernel_rfl) (fun _ _ _ h => h) (Or.inl ⟨by rfl, ?_⟩) (by assumption) ?_
        rotate_left
        · intro w' hSw; (try dsimp only at hSw); (try simp only [List.getElem_toArray, List.getElem_cons_zero]); go_simp; try with_reducible rfl
        (try simp only [List.getElem_toArray, List.getElem_cons_zero, Act.put, List.setIfInBounds_toArray, List.set_cons_zero, List.set_cons_succ])
        refine wpAnyH_take (i := 1) (v := ?_) rfl (by kernel_rfl) (by kernel_rfl) (by kernel_rfl) (fun _ _ _ h => h) (Or.inl ⟨by rfl, ?_⟩) (by assumption) ?_
        rotate_left
        · intro w' hSw; (try dsimp only at hSw); (try simp only [List.getElem_toArray, List.getElem_cons_zero, List.getElem_cons_succ]); go_simp; try with_reducible rfl
        (try simp only [List.getElem_toArray, List.getElem_cons_zero, List.getElem_cons_succ, Act.put, List.setIfInBounds_toArray, List.set_cons_zero, List.set_cons_succ])
        refine wpAnyH_take (i := 2) (v := ?_) rfl (by kernel_rfl) (by kernel_rfl) (by kernel_rfl) (fun _ _ _ h => h) (Or.inl ⟨by rfl, ?_⟩) (by assumption) ?_
        rotate_left
        · intro w' hSw; (try dsimp only at hSw); (try simp only [List.getElem_toArray, List.getElem_cons_zero, List.getElem_cons_succ]); go_simp; try with_reducible rfl
        (try simp only [List.getElem_toArray, List.getElem_cons_zero, List.getElem_cons_succ, Act.put, List.setIfInBounds_toArray, List.set_cons_zero, List.set_cons_succ])
        refine wpAnyH_take (i := 3) (v := ?_) rfl (by kernel_rfl) (by kernel_rfl) (by kernel_rfl) (fun _ _ _ h => h) (Or.inl ⟨by rfl, ?_⟩) (by assumption) ?_
        rotate_left
        · intro w' hSw; (try dsimp only at hSw); (try simp only [List.getElem_toArray, List.getElem_cons_zero, List.getElem_cons_succ]); go_simp; try with_reducible rfl
        (try simp only [List.getElem_toArray, List.getElem_cons_zero, List.getElem_cons_succ, Act.put, List.setIfInBounds_toArray, List.set_cons_zero, List.set_cons_succ])
        refine wpAnyH_ready (rs := [4]) (by kernel_rfl) (by simp) ?_
        refine AllReadyH.cons rfl (fun K hK => ?_) AllReadyH.nil
        go_simp
        (try go_split_ands)
        go_at_call 28
        (try go_split_ands)
        (with_reducible refine (CS1.out _ (by repeat (first | (with_reducible exact Hid.out (by assumption)) | (with_reducible exact Below.refl _ _) | (with_reducible refine Below.drew ?_)))).mono ?_)
        rintro e w' ⟨rfl, q0⟩
        (have qg : Below W13.heap.size W13 w' := by (refine next0 ?_ q0.1; repeat (first | (with_reducible exact Hid.out (by assumption)) | (with_reducible exact Below.refl _ _) | (with_reducible refine Below.drew ?_))))
        clear q0
        refine hK.out _ _ (Hb.out _ qg) (fun hHeld => ?_)
        clear hK K
        (try simp only [List.getElem_toArray, List.getElem_cons_zero, List.getElem_cons_succ, Act.put, List.setIfInBounds_toArray, List.set_cons_zero, List.set_cons_succ])
        refine wpAnyH_take (i := 5) (v := ?_) rfl (by kernel_rfl) (by kernel_rfl) (by kernel_rfl) (fun _ _ _ h => h) (Or.inl ⟨by rfl, ?_⟩) (by assumption) ?_
        rotate_left
        · intro w' hSw; (try dsimp only at hSw); (try simp only [List.getElem_toArray, List.getElem_cons_zero, List.getElem_cons_succ]); go_simp; try with_reducible rfl
        (try simp only [List.getElem_toArray, List.getElem_cons_zero, List.getElem_cons_succ, Act.put, List.setIfInBounds_toArray, List.set_cons_zero, List.set_cons_succ])
        refine wpAnyH_take (i := 6) (v := ?_) rfl (by kernel_rfl) (by kernel_rfl) (by kernel_rfl) (fun _ _ _ h => h) (Or.inl ⟨by rfl, ?_⟩) (by assumption) ?_
        rotate_left
        · intro w' hSw; (try dsimp only at hSw); (try simp only [List.getElem_toArray, List.getElem_cons_zero, List.getElem_cons_succ]); go_simp; try with_reducible rfl
        (try simp only [List.getElem_toArray, List.getElem_cons_zero, List.getElem_cons_succ, Act.put, List.setIfInBounds_toArray, List.set_cons_zero, List.set_cons_succ])
        refine wpAnyH_take (i := 7) (v := ?_) rfl (by kernel_rfl) (by kernel_rfl) (by kernel_rfl) (fun _ _ _ h => h) (Or.inl ⟨by rfl, ?_⟩) (by assumption) ?_
        rotate_left
        · intro w' hSw; (try dsimp only at hSw); (try simp only [List.getElem_toArray, List.getElem_cons_zero, List.getElem_cons_succ]); go_simp; try with_reducible rfl
        (try simp only [List.getElem_toArray, List.getElem_cons_zero, List.getElem_cons_succ, Act.put, List.setIfInBounds_toArray, List.set_cons_zero, List.set_cons_succ])
        refine wpAnyH_take (i := 8) (v := ?_) rfl (by kernel_rfl) (by kernel_rfl) (by kernel_rfl) (fun _ _ _ h => h) (Or.inl ⟨by rfl, ?_⟩) (by assumption) ?_
        rotate_left
        · intro w' hSw; (try dsimp only at hSw); (try simp only [List.getElem_toArray, List.getElem_cons_zero, List.getElem_cons_succ]); go_simp; try with_reducible rfl
        (try simp only [List.getElem_toArray, List.getElem_cons_zero, List.getElem_cons_succ, Act.put, List.setIfInBounds_toArray, List.set_cons_zero, List.set_cons_succ])
        refine wpAnyH_take (i := 9) (v := ?_) rfl (by kernel_rfl) (by kernel_rfl) (by kernel_rfl) (fun _ _ _ h => h) (Or.inl ⟨by rfl, ?_⟩) (by assumption) ?_
        rotate_left
        · intro w' hSw; (try dsimp only at hSw); (try simp only [List.getElem_toArray, List.getElem_cons_zero, List.getElem_cons_succ]); go_simp; try with_reducible rfl
        (try simp only [List.getElem_toArray, List.getElem_cons_zero, List.getElem_cons_succ, Act.put, List.setIfInBounds_toArray, List.set_cons_zero, List.set_cons_succ])
        refine wpAnyH_take (i := 10) (v := ?_) rfl (by kernel_rfl) (by kernel_rfl) (by kernel_rfl) (fun _ _ _ h => h) (Or.inl ⟨by rfl, ?_⟩) (by assumption) ?_
        rotate_left
        · intro w' hSw; (try dsimp only at hSw); (try simp only [List.getElem_toArray, List.getElem_cons_zero, List.getElem_cons_succ]); go_simp; try with_reducible rfl
        (try simp only [List.getElem_toArray, List.getElem_cons_zero, List.getElem_cons_succ, Act.put, List.setIfInBounds_toArray, List.set_cons_zero, List.set_cons_succ])
        refine wpAnyH_take (i := 11) (v := ?_) rfl (by kernel_rfl) (by kernel_rfl) (by kernel_rfl) (fun _ _ _ h => h) (Or.inl ⟨by rfl, ?_⟩) (by assumption) ?_
        rotate_left
        · intro w' hSw; (try dsimp only at hSw); (try simp only [List.getElem_toArray, List.getElem_cons_zero, List.getElem_cons_succ]); go_simp; try with_reducible rfl
        (try simp only [List.getElem_toArray, List.getElem_cons_zero, List.getElem_cons_succ, Act.put, List.setIfInBounds_toArray, List.set_cons_zero, List.set_cons_succ])
        refine wpAnyH_ready (rs := [12]) (by kernel_rfl) (by simp) ?_
        refine AllReadyH.cons rfl (fun K hK => ?_) AllReadyH.nil
        go_simp
        (try go_split_ands)
        go_at_call 28
        (try go_split_ands)
        (with_reducible refine (CS2.out _ (by repeat (first | (with_reducible exact Hid.out (by assumption)) | (with_reducible exact Below.refl _ _) | (with_reducible refine Below.drew ?_)))).mono ?_)
        rintro e w' ⟨rfl, q0⟩
        (have qg : Below W13.heap.size W13 w' := by (refine next0 ?_ q0.1; repeat (first | (with_reducible exact Hid.out (by assumption)) | (with_reducible exact Below.refl _ _) | (with_reducible refine Below.drew ?_))))
        clear q0
        refine hK.out _ _ (Hb.out _ qg) (fun hHeld => ?_)
        clear hK K
        (try simp only [List.getElem_toArray, List.getElem_cons_zero, List.getElem_cons_succ, Act.put, List.setIfInBounds_toArray, List.set_cons_zero, List.set_cons_succ])
        refine wpAnyH_take (i := 13) (v := ?_) rfl (by kernel_rfl) (by kernel_rfl) (by kernel_rfl) (fun _ _ _ h => h) (Or.inl ⟨by rfl, ?_⟩) (by assumption) ?_
        rotate_left
        · intro w' hSw; (try dsimp only at hSw); (try simp only [List.getElem_toArray, List.getElem_cons_zero, List.getElem_cons_succ]); go_simp; try with_reducible rfl
        (try simp only [List.getElem_toArray, List.getElem_cons_zero, List.getElem_cons_succ, Act.put, List.setIfInBounds_toArray, List.set_cons_zero, List.set_cons_succ])
        refine wpAnyH_take (i := 14) (v := ?_) rfl (by kernel_rfl) (by kernel_rfl) (by kernel_rfl) (fun _ _ _ h => h) (Or.inl ⟨by rfl, ?_⟩) (by assumption) ?_
        rotate_left
        · intro w' hSw; (try dsimp only at hSw); (try simp only [List.getElem_toArray, List.getElem_cons_zero, List.getElem_cons_succ]); go_simp; try with_reducible rfl
        (try simp only [List.getElem_toArray, List.getElem_cons_zero, List.getElem_cons_succ, Act.put, List.setIfInBounds_toArray, List.set_cons_zero, List.set_cons_succ])
        refine wpAnyH_take (i := 15) (v := ?_) rfl (by kernel_rfl) (by kernel_rfl) (by kernel_rfl) (fun _ _ _ h => h) (Or.inl ⟨by rfl, ?_⟩) (by assumption) ?_
        rotate_left
        · intro w' hSw; (try dsimp only at hSw); (try simp only [List.getElem_toArray, List.getElem_cons_zero, List.getElem_cons_succ]); go_simp; try with_reducible rfl
        (try simp only [List.getElem_toArray, List.getElem_cons_zero, List.getElem_cons_succ, Act.put, List.setIfInBounds_toArray, List.set_cons_zero, List.set_cons_succ])
        refine wpAnyH_take (i := 16) (v := ?_) rfl (by kernel_rfl) (by kernel_rfl) (by kernel_rfl) (fun _ _ _ h => h) (Or.inl ⟨by rfl, ?_⟩) (by assumption) ?_
        rotate_left
        · intro w' hSw; (try dsimp only at hSw); (try simp only [List.getElem_toArray, List.getElem_cons_zero, List.getElem_cons_succ]); go_simp; try with_reducible rfl
        (try simp only [List.getElem_toArray, List.getElem_cons_zero, List.getElem_cons_succ, Act.put, List.setIfInBounds_toArray, List.set_cons_zero, List.set_cons_succ])
        refine wpAnyH_take (i := 17) (v := ?_) rfl (by kernel_rfl) (by kernel_rfl) (by kernel_rfl) (fun _ _ _ h => h) (Or.inl ⟨by rfl, ?_⟩) (by assumption) ?_
        rotate_left
        · intro w' hSw; (try dsimp only at hSw); (try simp only [List.getElem_toArray, List.getElem_cons_zero, List.getElem_cons_succ]); go_simp; try with_reducible rfl
        (try simp only [List.getElem_toArray, List.getElem_cons_zero, List.getElem_cons_succ, Act.put, List.setIfInBounds_toArray, List.set_cons_zero, List.set_cons_succ])
        refine wpAnyH_take (i := 18) (v := ?_) rfl (by kernel_rfl) (by kernel_rfl) (by kernel_rfl) (fun _ _ _ h => h) (Or.inl ⟨by rfl, ?_⟩) (by assumption) ?_
        rotate_left
        · intro w' hSw; (try dsimp only at hSw); (try simp only [List.getElem_toArray, List.getElem_cons_zero, List.getElem_cons_succ]); go_simp; try with_reducible rfl
        (try simp only [List.getElem_toArray, List.getElem_cons_zero, List.getElem_cons_succ, Act.put, List.setIfInBounds_toArray, List.set_cons_zero, List.set_cons_succ])
        refine wpAnyH_take (i := 19) (v := ?_) rfl (by kernel_rfl) (by kernel_rfl) (by kernel_rfl) (fun _ _ _ h => h) (Or.inl ⟨by rfl, ?_⟩) (by assumption) ?_
        rotate_left
        · intro w' hSw; (try dsimp only at hSw); (try simp only [List.getElem_toArray, List.getElem_cons_zero, List.getElem_cons_succ]); go_simp; try with_reducible rfl
        (try simp only [List.getElem_toArray, List.getElem_cons_zero, List.getElem_cons_succ, Act.put, List.setIfInBounds_toArray, List.set_cons_zero, List.set_cons_succ])
        refine wpAnyH_take (i := 20) (v := ?_) rfl (by kernel_rfl) (by kernel_rfl) (by kernel_rfl) (fun _ _ _ h => h) (Or.inl ⟨by rfl, ?_⟩) (by assumption) ?_
        rotate_left
        · intro w' hSw; (try dsimp only at hSw); (try simp only [List.getElem_toArray, List.getElem_cons_zero, List.getElem_cons_succ]); go_simp; try with_reducible rfl
        (try simp only [List.getElem_toArray, List.getElem_cons_zero, List.getElem_cons_succ, Act.put, List.setIfInBounds_toArray, List.set_cons_zero, List.set_cons_succ])
        refine wpAnyH_take (i := 21) (v := ?_) rfl (by kernel_rfl) (by kernel_rfl) (by kernel_rfl) (fun _ _ _ h => h) (Or.inl ⟨by rfl, ?_⟩) (by assumption) ?_
        rotate_left
        · intro w' hSw; (try dsimp only at hSw); (try simp only [List.getElem_toArray, List.getElem_cons_zero, List.getElem_cons_succ]); go_simp; try with_reducible rfl
        (try simp only [List.getElem_toArray, List.getElem_cons_zero, List.getElem_cons_succ, Act.put, List.setIfInBounds_toArray, List.set_cons_zero, List.set_cons_succ])
        refine wpAnyH_ready (rs := [22]) (by kernel_rfl) (by simp) ?_
        refine AllReadyH.cons rfl (fun K hK => ?_) AllReadyH.nil
        go_simp
        (try go_split_ands)
        go_at_call 37
        (try go_split_ands)
        (with_reducible refine (F7.out _).mono ?_)
        rintro e w' ⟨q22, d22, rfl, s9, q0⟩
        have S22 := Lib.hid s9
        (have qg : Below W13.heap.size W13 w' := by (refine next0 ?_ q0; repeat (first | (with_reducible exact Hid.out (by assumption)) | (with_reducible exact Below.refl _ _) | (with_reducible refine Below.drew ?_))))
        have Q22 := Lib.hid qg
        clear q0 s9
        refine hK.out _ _ (Hb.out _ qg) (fun hHeld => ?_)
        clear hK K
        (try simp only [List.getElem_toArray, List.getElem_cons_zero, List.getElem_cons_succ, Act.put, List.setIfInBounds_toArray, List.set_cons_zero, List.set_cons_succ])
        refine wpAnyH_ready (rs := [23]) (by kernel_rfl) (by simp) ?_
        refine AllReadyH.cons rfl (fun K hK => ?_) AllReadyH.nil
        go_simp
        (try go_split_ands)
        go_at_call 18
        (try go_split_ands)
        (with_reducible refine (CT1.out _ _ _ Q22.out S22.out).mono ?_)
        rintro e w' ⟨rfl, q0⟩
        (have qg : Below W13.heap.size W13 w' := next0 Q22.out q0.1)
        clear q0
        refine hK.out _ _ (Hb.out _ qg) (fun hHeld => ?_)
        clear hK K
        (try simp only [List.getElem_toArray, List.getElem_cons_zero, List.getElem_cons_succ, Act.put, List.setIfInBounds_toArray, List.set_cons_zero, List.set_cons_succ])
        refine wpAnyH_take (i := 24) (v := ?_) rfl (by kernel_rfl) (by kernel_rfl) (by kernel_rfl) (fun _ _ _ h => h) (Or.inl ⟨by rfl, ?_⟩) (by assumption) ?_
        rotate_left
        · intro w' hSw; (try dsimp only at hSw); (try simp only [List.getElem_toArray, List.getElem_cons_zero, List.getElem_cons_succ]); go_simp; try with_reducible rfl
        (try simp only [List.getElem_toArray, List.getElem_cons_zero, List.getElem_cons_succ, Act.put, List.setIfInBounds_toArray, List.set_cons_zero, List.set_cons_succ])
        refine wpAnyH_take (i := 25) (v := ?_) rfl (by kernel_rfl) (by kernel_rfl) (by kernel_rfl) (fun _ _ _ h => h) (Or.inl ⟨by rfl, ?_⟩) (by assumption) ?_
        rotate_left
        · intro w' hSw; (try dsimp only at hSw); (try simp only [List.getElem_toArray, List.getElem_cons_zero, List.getElem_cons_succ]); go_simp; try with_reducible rfl
        (try simp only [List.getElem_toArray, List.getElem_cons_zero, List.getElem_cons_succ, Act.put, List.setIfInBounds_toArray, List.set_cons_zero, List.set_cons_succ])
        refine wpAnyH_take (i := 26) (v := ?_) rfl (by kernel_rfl) (by kernel_rfl) (by kernel_rfl) (fun _ _ _ h => h) (Or.inl ⟨by rfl, ?_⟩) (by assumption) ?_
        rotate_left
        · intro w' hSw; (try dsimp only at hSw); (try simp only [List.getElem_toArray, List.getElem_cons_zero, List.getElem_cons_succ]); go_simp; try with_reducible rfl
        (try simp only [List.getElem_toArray, List.getElem_cons_zero, List.getElem_cons_succ, Act.put, List.setIfInBounds_toArray, List.set_cons_zero, List.set_cons_succ])
        refine wpAnyH_ready (rs := [27]) (by kernel_rfl) (by simp) ?_
        refine AllReadyH.cons rfl (fun K hK => ?_) AllReadyH.nil
        go_simp
        (try go_split_ands)
        go_at_call 15
        (try go_split_ands)
        (with_reducible refine (CV1.out _ (by repeat (first | (with_reducible exact Hid.out (by assumption)) | (with_reducible exact Below.refl _ _) | (with_reducible refine Below.drew ?_)))).mono ?_)
        rintro e w' ⟨rfl, q0⟩
        (have qg : Below W13.heap.size W13 w' := by (refine next0 ?_ q0.1; repeat (first | (with_reducible exact Hid.out (by assumption)) | (with_reducible exact Below.refl _ _) | (with_reducible refine Below.drew ?_))))
        clear q0
        refine hK.out _ _ (Hb.out _ qg) (fun hHeld => ?_)
        clear hK K
        (try simp only [List.getElem_toArray, List.getElem_cons_zero, List.getElem_cons_succ, Act.put, List.setIfInBounds_toArray, List.set_cons_zero, List.set_cons_succ])
        refine wpAnyH_take (i := 28) (v := ?_) rfl (by kernel_rfl) (by kernel_rfl) (by kernel_rfl) (fun _ _ _ h => h) (Or.inl ⟨by rfl, ?_⟩) (by assumption) ?_
        rotate_left
        · intro w' hSw; (try dsimp only at hSw); (try simp only [List.getElem_toArray, List.getElem_cons_zero, List.getElem_cons_succ]); go_simp; try with_reducible rfl
        (try simp only [List.getElem_toArray, List.getElem_cons_zero, List.getElem_cons_succ, Act.put, List.setIfInBounds_toArray, List.set_cons_zero, List.set_cons_succ])
        refine wpAnyH_take (i := 29) (v := ?_) rfl (by kernel_rfl) (by kernel_rfl) (by kernel_rfl) (fun _ _ _ h => h) (Or.inl ⟨by rfl, ?_⟩) (by assumption) ?_
        rotate_left
        · intro w' hSw; (try dsimp only at hSw); (try simp only [List.getElem_toArray, List.getElem_cons_zero, List.getElem_cons_succ]); go_simp; try with_reducible rfl
        (try simp only [List.getElem_toArray, List.getElem_cons_zero, List.getElem_cons_succ, Act.put, List.setIfInBounds_toArray, List.set_cons_zero, List.set_cons_succ])
        refine wpAnyH_take (i := 30) (v := ?_) rfl (by kernel_rfl) (by kernel_rfl) (by kernel_rfl) (fun _ _ _ h => h) (Or.inl ⟨by rfl, ?_⟩) (by assumption) ?_
        rotate_left
        · intro w' hSw; (try dsimp only at hSw); (try simp only [List.getElem_toArray, List.getElem_cons_zero, List.getElem_cons_succ]); go_simp; try with_reducible rfl
        (try simp only [List.getElem_toArray, List.getElem_cons_zero, List.getElem_cons_succ, Act.put, List.setIfInBounds_toArray, List.set_cons_zero, List.set_cons_succ])
        refine wpAnyH_take (i := 31) (v := ?_) rfl (by kernel_rfl) (by kernel_rfl) (by kernel_rfl) (fun _ _ _ h => h) (Or.inl ⟨by rfl, ?_⟩) (by assumption) ?_
        rotate_left
        · intro w' hSw; (try dsimp only at hSw); (try simp only [List.getElem_toArray, List.getElem_cons_zero, List.getElem_cons_succ]); go_simp; try with_reducible rfl
        (try simp only [List.getElem_toArray, List.getElem_cons_zero, List.getElem_cons_succ, Act.put, List.setIfInBounds_toArray, List.set_cons_zero, List.set_cons_succ])
        refine wpAnyH_take (i := 32) (v := ?_) rfl (by kernel_rfl) (by kernel_rfl) (by kernel_rfl) (fun _ _ _ h => h) (Or.inl ⟨by rfl, ?_⟩) (by assumption) ?_
        rotate_left
        · intro w' hSw; (try dsimp only at hSw); (try simp only [List.getElem_toArray, List.getElem_cons_zero, List.getElem_cons_succ]); go_simp; try with_reducible rfl
        (try simp only [List.getElem_toArray, List.getElem_cons_zero, List.getElem_cons_succ, Act.put, List.setIfInBounds_toArray, List.set_cons_zero, List.set_cons_succ])
        refine wpAnyH_take (i := 33) (v := ?_) rfl (by kernel_rfl) (by kernel_rfl) (by kernel_rfl) (fun _ _ _ h => h) (Or.inl ⟨by rfl, ?_⟩) (by assumption) ?_
        rotate_left
        · intro w' hSw; (try dsimp only at hSw); (try simp only [List.getElem_toArray, List.getElem_cons_zero, List.getElem_cons_succ]); go_simp; try with_reducible rfl
        (try simp only [List.getElem_toArray, List.getElem_cons_zero, List.getElem_cons_succ, Act.put, List.setIfInBounds_toArray, List.set_cons_zero, List.set_cons_succ])
        refine wpAnyH_take (i := 34) (v := ?_) rfl (by kernel_rfl) (by kernel_rfl) (by kernel_rfl) (fun _ _ _ h => h) (Or.inl ⟨by rfl, ?_⟩) (by assumption) ?_
        rotate_left
        · intro w' hSw; (try dsimp only at hSw); (try simp only [List.getElem_toArray, List.getElem_cons_zero, List.getElem_cons_succ]); go_simp; try with_reducible rfl
        (try simp only [List.getElem_toArray, List.getElem_cons_zero, List.getElem_cons_succ, Act.put, List.setIfInBounds_toArray, List.set_cons_zero, List.set_cons_succ])
        refine wpAnyH_take (i := 35) (v := ?_) rfl (by kernel_rfl) (by kernel_rfl) (by kernel_rfl) (fun _ _ _ h => h) (Or.inl ⟨by rfl, ?_⟩) (by assumption) ?_
        rotate_left
        · intro w' hSw; (try dsimp only at hSw); (try simp only [List.getElem_toArray, List.getElem_cons_zero, List.getElem_cons_succ]); go_simp; try with_reducible rfl
        (try simp only [List.getElem_toArray, List.getElem_cons_zero, List.getElem_cons_succ, Act.put, List.setIfInBounds_toArray, List.set_cons_zero, List.set_cons_succ])
        refine wpAnyH_take (i := 36) (v := ?_) rfl (by kernel_rfl) (by kernel_rfl) (by kernel_rfl) (fun _ _ _ h => h) (Or.inl ⟨by rfl, ?_⟩) (by assumption) ?_
        rotate_left
        · intro w' hSw; (try dsimp only at hSw); (try simp only [List.getElem_toArray, List.getElem_cons_zero, List.getElem_cons_succ]); go_simp; try with_reducible rfl
        (try simp only [List.getElem_toArray, List.getElem_cons_zero, List.getElem_cons_succ, Act.put, List.setIfInBounds_toArray, List.set_cons_zero, List.set_cons_succ])
        refine wpAnyH_ready (rs := [37]) (by kernel_rfl) (by simp) ?_
        refine AllReadyH.cons rfl (fun K hK => ?_) AllReadyH.nil
        go_simp
        (try go_split_ands)
        go_at_call 37
        (try go_split_ands)
        (with_reducible refine (F8.out _).mono ?_)
        rintro e w' ⟨q37, d37, rfl, s9, q0⟩
        have S37 := Lib.hid s9
        (have qg : Below W13.heap.size W13 w' := by (refine next0 ?_ q0; repeat (first | (with_reducible exact Hid.out (by assumption)) | (with_reducible exact Below.refl _ _) | (with_reducible refine Below.drew ?_))))
        have Q37 := Lib.hid qg
        clear q0 s9
        refine hK.out _ _ (Hb.out _ qg) (fun hHeld => ?_)
        clear hK K
        (try simp only [List.getElem_toArray, List.getElem_cons_zero, List.getElem_cons_succ, Act.put, List.setIfInBounds_toArray, List.set_cons_zero, List.set_cons_succ])
        refine wpAnyH_ready (rs := [38]) (by kernel_rfl) (by simp) ?_
        refine AllReadyH.cons rfl (fun K hK => ?_) AllReadyH.nil
        go_simp
        (try go_split_ands)
        go_at_call 18
        (try go_split_ands)
        (with_reducible refine (CT2.out _ _ _ Q37.out S37.out).mono ?_)
        rintro e w' ⟨rfl, q0⟩
        (have qg : Below W13.heap.size W13 w' := next0 Q37.out q0.1)
        clear q0
        refine hK.out _ _ (Hb.out _ qg) (fun hHeld => ?_)
        clear hK K
        (try simp only [List.getElem_toArray, List.getElem_cons_zero, List.getElem_cons_succ, Act.put, List.setIfInBounds_toArray, List.set_cons_zero, List.set_cons_succ])
        refine wpAnyH_take (i := 39) (v := ?_) rfl (by kernel_rfl) (by kernel_rfl) (by kernel_rfl) (fun _ _ _ h => h) (Or.inl ⟨by rfl, ?_⟩) (by assumption) ?_
        rotate_left
        · intro w' hSw; (try dsimp only at hSw); (try simp only [List.getElem_toArray, List.getElem_cons_zero, List.getElem_cons_succ]); go_simp; try with_reducible rfl
        (try simp only [List.getElem_toArray, List.getElem_cons_zero, List.getElem_cons_succ, Act.put, List.setIfInBounds_toArray, List.set_cons_zero, List.set_cons_succ])
        refine wpAnyH_take (i := 40) (v := ?_) rfl (by kernel_rfl) (by kernel_rfl) (by kernel_rfl) (fun _ _ _ h => h) (Or.inl ⟨by rfl, ?_⟩) (by assumption) ?_
        rotate_left
        · intro w' hSw; (try dsimp only at hSw); (try simp only [List.getElem_toArray, List.getElem_cons_zero, List.getElem_cons_succ]); go_simp; try with_reducible rfl
        (try simp only [List.getElem_toArray, List.getElem_cons_zero, List.getElem_cons_succ, Act.put, List.setIfInBounds_toArray, List.set_cons_zero])
        refine wpAnyH_done (by kernel_rfl) ?_ _
        go_wp2_with fail
        go_ret
        exact ⟨rfl, FIN.out _ qg⟩
end UnmL
end Go.Proofs.YtjfgnmmcdgpiiaaGreatDoor
/- The listed variable of layer 1's rows (the bytes that end names): a world that holds it, and what a row's list gives a walk. No conditions. -/
namespace Go.Proofs.YtjfgnmmcdgpiiaaGreatDoor
open Go Go.RowKit Go.ChangeShapes Go.WideShapes Go.ChangeAt
namespace TermJ
open TermT
abbrev list : List (String × DataW Unit) := [("gameplayer/term.nameEnds", Rows.laid_gameplayer_term_nameEnds)]
noncomputable def lay1 (w : World) (g : Nat) (cs : Array Value) : World :=
  { w with heap := w.heap.modify g fun
      | .cells _ t frozen => .cells cs t frozen
      | o => o }
noncomputable def laidWorld (os : Os) : World :=
  lay1 (World.holding Tryz.prog os ⟨#[], #[], []⟩) 0 #[.int .u8 40, .int .u8 44, .int .u8 41]
theorem laid_met_gen (os : Os) (args : Array Value) : laidMet Tryz.prog list ((laidWorld os).forCall (fun _ _ => 0) ⟨#[], args, []⟩).memory :=
  laidMet_of_run' 8 (by kernel_rfl) (by kernel_rfl)
theorem ints {H : Type} {enc : TypeId × Value → H} {P : Program} {w : World} {base : Nat} {sp : Nat → Bool} {held : Bool} {fuel : Nat} {t e : TypeId} {n : Nat} {cs : List Value} {ls : List Int} {p : List MemPlace}
    (ht : P.underlying t = some (.array n e)) (he : P.underlying e = some (.int .u8)) (hce : P.cellsOf e = 1) (hct : P.cellsOf t = n)
    (h : DataW.trod enc P w base sp held fuel t cs = some (.agg (ls.map fun l => .lit (.int .u8 l)), p)) : cs = ls.map fun l => Value.int .u8 l := by
  obtain ⟨xs, m, _, hx, hlen, hxl, hall⟩ := DataW.trod_array ht h
  have hxs : xs.map (·.1) = ls.map fun l => (DataW.lit (.int .u8 l) : DataW H) := by
    have := congrArg Prod.fst hx
    simpa using this.symm
  have hll : ls.length = n := by
    have := congrArg List.length hxs
    simp at this
    omega
  apply List.ext_getElem?
  intro i
  by_cases hi : i < n
  · obtain ⟨b, hb⟩ : ∃ b, xs[i]? = some b := ⟨xs[i]'(by omega), by simp⟩
    have hf := hall i hi
    rw [hb, hce, Nat.mul_one] at hf
    obtain ⟨s, hc, rfl, _⟩ := DataW.trod_int he hf
    have h1 : cs[i]? = some (.int .u8 s) := by
      have := congrArg (·[0]?) hc
      simpa [List.getElem?_take, List.getElem?_drop] using this
    have h2 : (xs.map (·.1))[i]? = some (DataW.lit (.int .u8 s) : DataW H) := by simp [hb]
    rw [hxs] at h2
    simp only [List.getElem?_map, Option.map_eq_some_iff, DataW.lit.injEq, Lit.int.injEq] at h2
    obtain ⟨l, hl, _, hls⟩ := h2
    rw [h1, List.getElem?_map, hl, hls]
    rfl
  · rw [List.getElem?_eq_none (by omega), List.getElem?_eq_none (by simp; omega)]
theorem gEnds : Tryz.prog.globalNamed "gameplayer/term.nameEnds" = some 0 := by kernel_rfl
theorem ends_gen {W : World} (h : laidMetH Tryz.prog list W) : Wd W := by
  have h1 : laidMet Tryz.prog list W := h
  obtain ⟨ps, ⟨g', t', cs, fuel, p, q, hg', ht', hvar, hd, _, _⟩, _⟩ := h1
  obtain rfl := Option.some.inj (gEnds.symm.trans hg')
  obtain rfl := Option.some.inj ((show (Tryz.prog.globals[0]?).map (·.type) = some 144 by kernel_rfl).symm.trans ht')
  have hc := ints (ls := [40, 44, 41]) Tryz.underlying144 Tryz.underlying5 (by kernel_rfl) (by kernel_rfl) hd
  have c0 := World.var?_cell gEnds hvar 0
  have c1 := World.var?_cell gEnds hvar 1
  have c2 := World.var?_cell gEnds hvar 2
  have e : cs = #[.int .u8 40, .int .u8 44, .int .u8 41] := Array.ext' hc
  rw [e] at c0 c1 c2
  exact ⟨World.block_lt_of_cell? W _ c0, c0, c1, c2⟩
end TermJ
end Go.Proofs.YtjfgnmmcdgpiiaaGreatDoor
/- How a list of bindings that comes in is opened; the four listed variables of the unify rows: a world that holds them, and what a row's list gives a walk. No conditions. -/
namespace Go.Proofs.YtjfgnmmcdgpiiaaGreatDoor
open Go Go.RowKit Go.ChangeShapes Go.WideShapes Go.ChangeAt Go.Deep
namespace UnnA
open LexM TermM TermI Kit TermU UniM UniK
theorem cellsBd : Tryz.prog.cellsOf 52 = 3 := by kernel_rfl
theorem underBd : ∃ f0 f1 : Field, Tryz.prog.underlying 52 = some (.struct #[f0, f1]) ∧ f0.offset = 0 ∧ f1.offset = 1 ∧ f0.type = 9 ∧ f1.type = 27 := ⟨_, _, Tryz.underlying52, rfl, rfl, rfl, rfl⟩
theorem three_of (l : List Value) (h : l.length = 3) : ∃ a b c, l = [a, b, c] := by
  match l, h with
  | [a, b, c], _ => exact ⟨a, b, c, rfl⟩
/-- Three cells that read as a binding. -/
theorem bind_in {H : Type} {enc : TypeId × Value → H} {W : World} {base : Nat} {sp : Nat → Bool} {held : Bool} {n : Nat} {cs : List Value} {x : DataW H × List MemPlace}
    (h : DataW.trod enc Tryz.prog W base sp held n 52 cs = some x) : ∃ (y : Bd) (v : Value), cs = KB.cells (y, v) ∧ KB.inn (· < W.heap.size) W (y, v) := by
  obtain ⟨f0, f1, hu, o0, o1, y0, y1⟩ := underBd
  obtain ⟨xs, k, hk, hxy, hcl, hxl, hf⟩ := DataW.trod_struct hu h
  rw [cellsBd] at hcl
  obtain ⟨v0, v1, v2, rfl⟩ := three_of cs hcl
  match xs, hxl with
  | [x0, x1], _ =>
    have g0 := hf 0 f0 rfl
    have g1 := hf 1 f1 rfl
    simp [o0, o1, y0, y1, cellsS, cellsT] at g0 g1
    obtain ⟨s, q1, q2, hs⟩ := DataW.trod_string Tryz.underlying9 g0
    simp at q1
    subst q1
    obtain ⟨t, v, k2, y, e, _, ht, hv, hx1⟩ := struct_in g1
    injection e with e1 e2
    injection e2 with e2 _
    subst e1 e2
    obtain ⟨l, v', e', hin⟩ := slice_in _ _ _ hv
    injection e' with e' _
    subst e'
    exact ⟨(s, .mk t l), _, rfl, hin, ht, hs⟩
/-- A slice value that reads as a slice of bindings. -/
theorem binds_in {H : Type} {enc : TypeId × Value → H} {W : World} {base : Nat} {sp : Nat → Bool} {held : Bool} {n : Nat} {cs : List Value} {x : DataW H × List MemPlace}
    (h : DataW.trod enc Tryz.prog W base sp held n 22 cs = some x) : ∃ (l : List Bd) (v : Value), cs = [v] ∧ SIn (· < W.heap.size) W l v := by
  rcases DataW.trod_slice Tryz.underlying22 h with ⟨rfl, rfl⟩ | ⟨a, len, cap, elems, rest, m, hn, rfl, rfl, _, hle, hm, hlen, hel, _⟩
  · exact ⟨[], _, rfl, SIn.nil _ _⟩
  · have each : ∀ i, i < len → ∃ tv : Bd × Value, (∀ j u, (KB.cells tv)[j]? = some u → W.cell? (a.add (i * 3 + j)) = some u) ∧ KB.inn (· < W.heap.size) W tv := by
      intro i hi
      have he := hel i hi
      rw [List.getElem?_eq_getElem (by omega)] at he
      obtain ⟨cs', h1, h2⟩ := Option.bind_eq_some_iff.1 he
      rw [cellsBd] at h1
      obtain ⟨_, hl2, hcell⟩ := World.cells?_some h1
      obtain ⟨y, v, rfl, hin⟩ := bind_in h2
      refine ⟨(y, v), fun j u hu => ?_, hin⟩
      have hj := (List.getElem?_eq_some_iff.1 hu).1
      have hj3 : j < 3 := by rw [KB.len] at hj; exact hj
      have e0 := hcell j (by omega)
      rw [add_add] at e0
      rw [e0]
      exact hu
    obtain ⟨tvs, htl, hall⟩ := gather each
    obtain ⟨b, off, spot⟩ := a
    have hsp : tvs ≠ [] → spot = none ∧ b < W.heap.size := by
      intro hne
      obtain ⟨tv, hg⟩ : ∃ tv, tvs[0]? = some tv := by cases tvs with
        | nil => exact absurd rfl hne
        | cons a r => exact ⟨a, rfl⟩
      have h0 := (hall 0 tv hg).1 0 _ rfl
      have h2 : spot = none := by simpa [Addr.add] using World.cell?_spot h0
      subst h2
      exact ⟨rfl, by simpa [Addr.add] using block_lt_of_cell h0⟩
    refine ⟨tvs.map (·.1), .slice (some ⟨b, off, spot⟩) len cap, rfl, tvs, rfl, _, cap, by rw [htl], by omega, hm, fun x hx => ?_, fun hl => ?_⟩
    · obtain ⟨i, hi⟩ := List.mem_iff_getElem?.1 hx
      exact (hall i x hi).2
    · obtain ⟨rfl, hb⟩ := hsp (by intro e; subst e; simp at hl)
      refine ⟨b, off, rfl, hb, fun i x hx j u hu => ?_⟩
      have := (hall i x hx).1 j u hu
      rw [addr_add, ← Nat.add_assoc] at this
      exact this
set_option maxRecDepth 100000 in
theorem open_binds {H : Type} {enc : TypeId × Value → H} {W : World} {b0 : Nat} {base : Nat} {sp : Nat → Bool} {held : Bool} {v : Value} {d : DataW H} {p : List MemPlace}
    (hv : Value.okWide Tryz.prog W .any b0 22 v) (h : DataW.Trod enc Tryz.prog W base sp held 22 v d p) : ∃ l, SIn (· < W.heap.size) W l v := by
  obtain ⟨a0, m0, c0, rfl⟩ := Go.WideShapes.okWide_slice Tryz.underlying22 hv
  obtain ⟨fuel, hf⟩ := h
  obtain ⟨l, v, e, hin⟩ := binds_in hf
  simp [Value.cells] at e
  subst e
  exact ⟨l, hin⟩
/-! ### The listed variables -/
abbrev list : List (String × DataW Unit) := [("math/bits.deBruijn32tab", Rows.laid_math_bits_deBruijn32tab), ("math/bits.deBruijn64tab", Rows.laid_math_bits_deBruijn64tab), ("internal/strconv.uint64pow10", Rows.laid_internal_strconv_uint64pow10), ("gameplayer/term.nameEnds", Rows.laid_gameplayer_term_nameEnds)]
def cellsOf (zs : List Int) (k : IntKind) : Array Value := (zs.map fun z => Value.int k z).toArray
noncomputable def laidWorld (os : Os) : World :=
  TermJ.lay1 (TermJ.lay1 (TermJ.lay1 (TermJ.lay1 (World.holding Tryz.prog os ⟨#[], #[], []⟩)
    1 (cellsOf Lib.pow10Tab .u64))
    2 (cellsOf [0, 1, 28, 2, 29, 14, 24, 3, 30, 22, 20, 15, 25, 17, 4, 8, 31, 27, 13, 23, 21, 19, 16, 7, 26, 12, 18, 6, 11, 5, 10, 9] .u8))
    3 (cellsOf [0, 1, 56, 2, 57, 49, 28, 3, 61, 58, 42, 50, 38, 29, 17, 4, 62, 47, 59, 36, 45, 43, 51, 22, 53, 39, 33, 30, 24, 18, 12, 5, 63, 55, 48, 27, 60, 41, 37, 16, 46, 35, 44, 21, 52, 32, 23, 11, 54, 26, 40, 15, 34, 20, 31, 10, 25, 14, 19, 9, 13, 8, 7, 6] .u8))
    0 #[.int .u8 40, .int .u8 44, .int .u8 41]
theorem laid_met_gen (os : Os) (args : Array Value) : laidMet Tryz.prog list ((laidWorld os).forCall (fun _ _ => 0) ⟨#[], args, []⟩).memory :=
  laidMet_of_run' 8 (by kernel_rfl) (by kernel_rfl)
theorem ends_gen {W : World} (h : laidMetH Tryz.prog list W) : TermT.Wd W := by
  have h1 : laidMet Tryz.prog list W := h
  have h2 := laidMet.filter (fun x => x.1 == "gameplayer/term.nameEnds") h1
  have h3 : laidMet Tryz.prog TermJ.list W := h2
  exact TermJ.ends_gen h3
theorem awake_all {W : World} (h : TermT.Wd W) : UniW.Aw W := fun w' k => UnmL.awake_any w' (h.below k h.1)
end UnnA
end Go.Proofs.YtjfgnmmcdgpiiaaGreatDoor
