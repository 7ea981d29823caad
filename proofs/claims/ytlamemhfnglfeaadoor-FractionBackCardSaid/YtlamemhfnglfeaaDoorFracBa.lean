/- FractionBack's walk. Conditions: those of FracB3. -/
import Derived.Test.YtlamemhfnglfeaaDoorFracB9
import Derived.Test.YtlamemhfnglfeaaDoorFracB4
import Derived.Test.YtlamemhfnglfeaaDoorFracW
namespace Go.Proofs.YtlamemhfnglfeaaDoor
open Go Go.RowKit
namespace FracBa
open Kit FracT FracM FracB1 FracB2 FracB3 FracB4 FracB5 FracB6 FracB9
theorem text_len (n d : Int) (h0 : -1073741824 ≤ n) (h1 : n ≤ 1073741824) (h2 : -1073741824 ≤ d) (h3 : d ≤ 1073741824) : (text n d).length ≤ 23 := by
  have a := itoa_len n h0 h1
  have b := itoa_len d h2 h3
  unfold text
  split
  · omega
  · simp; omega
def K (w : World) (a b : Int) (g : Nat) (w' : World) : Prop := Below w.heap.size w w' ∧ Cnd w' ∧ Has w' w.heap.size #[.int .i64 a, .int .i64 b] ∧ Has w' g #[.int .i64 a, .int .i64 b]
abbrev S (w : World) (a b : Int) (g : Nat) (w' : World) : Prop := w'.cell? ⟨w.heap.size, 0, none⟩ = some (.int .i64 a) ∧ w'.cell? ⟨w.heap.size, 1, none⟩ = some (.int .i64 b) ∧ w'.cell? ⟨g, 0, none⟩ = some (.int .i64 a) ∧ w'.cell? ⟨g, 1, none⟩ = some (.int .i64 b) ∧ Hid (K w a b g w')
theorem s_of {w w' : World} {a b : Int} {g : Nat} (h : K w a b g w') : S w a b g w' :=
  ⟨h.2.2.1.cell 0, h.2.2.1.cell 1, h.2.2.2.cell 0, h.2.2.2.cell 1, h⟩
theorem lift {f : FuncId} {args : Array Value} {v : Value} {w w' : World} {a b : Int} {g : Nat} (hS : S w a b g w')
    (h : ∀ w1, Cnd w1 → Calls Tryd.prog f args w1 fun e w2 => e = .returned v ∧ Below w1.heap.size w1 w2) : Calls Tryd.prog f args w' fun e w2 => e = .returned v ∧ S w a b g w2 :=
  (h w' hS.2.2.2.2.2.1).mono fun _ _ ⟨he, hb⟩ => ⟨he, s_of ⟨hS.2.2.2.2.1.trans (hb.mono hS.2.2.2.2.1.size), hS.2.2.2.2.2.1.below hb, hS.2.2.2.2.2.2.1.step0 hb, hS.2.2.2.2.2.2.2.step0 hb⟩⟩
set_option maxRecDepth 100000 in
set_option maxHeartbeats 6400000 in
theorem backs (a b : Int) (s : ByteArray) (w : World) (hc : Cnd w) (a0 : -9223372036854775808 ≤ a) (a1 : a ≤ 9223372036854775807) (b0 : -9223372036854775808 ≤ b) (b1 : b ≤ 9223372036854775807) :
    Calls Tryd.prog 9 #[.agg #[.int .i64 a, .int .i64 b], .string s] w fun e w' => e = .returned (.bool true) ∧ Below w.heap.size w w' := by
  have CA := Lib.hid (fun w (hc : Cnd w) => FracW.awake_any w hc.tab)
  have HC := Lib.hid hc
  clear hc
  have HF := Lib.hid (Has.new w 23 #[.int .i64 a, .int .i64 b])
  have B0 := Lib.hid (below_alloc w (.cells #[.int .i64 a, .int .i64 b] 23))
  have HC0 := Lib.hid (HC.out.below B0.out)
  by_cases h0 : 100 < s.size
  · go_enter Tryd.func9, Tryd.ntmps9
    go_wp2_with fail
    refine (CA.out _ HC0.out).mono ?_
    rintro e w' ⟨rfl, k⟩
    go_wp2_with fail
    go_ret
    exact ⟨rfl, B0.out.trans (k.mono B0.out.size)⟩
  have C1 := Lib.hid (fun w hc => parse_any s (by omega) w hc)
  have C2 := Lib.hid (fun w => rparse_any s (by omega) w)
  have hsame := same s.data.toList
  rw [← hsame] at C2
  have hok := read_ok s.data.toList
  generalize codeP s.data.toList = R at *
  obtain ⟨n, d, z⟩ := R
  unfold PR at C1 C2
  dsimp only at C1 C2 hok
  have CV := Lib.hid (fun w => FracE.valid_any a b w a0 a1 b0 b1)
  have CT := Lib.hid (fun w (hc : Cnd w) => FracT.text_any a b w a0 a1 b0 b1 hc.tab)
  have CU := Lib.hid (fun (h : vld a b = true) w => rtext_any a b w (vld_in h).1.1 (vld_in h).1.2 (vld_in h).2.1.1 (vld_in h).2.1.2)
  have CP : Hid (vld a b = true → ∀ w, Cnd w → Calls Tryd.prog 36 #[.string ⟨(text a b).toArray⟩] w fun e w' => e = .returned (.tuple #[.agg #[.int .i64 a, .int .i64 b], .int .i64 0]) ∧ Below w.heap.size w w') := by
    intro h w hc
    have q := vld_in h
    have k := parse_any ⟨(text a b).toArray⟩ (by rw [size_of]; have := text_len a b q.1.1 q.1.2 q.2.1.1 q.2.1.2; omega) w hc
    have e : (⟨(text a b).toArray⟩ : ByteArray).data.toList = text a b := rfl
    rw [e, codeP_of a b h] at k
    exact k
  generalize (⟨(text a b).toArray⟩ : ByteArray) = T at *
  go_enter Tryd.func9, Tryd.ntmps9
  go_wp2_with fail
  refine (C1.out _ HC0.out).mono ?_
  rintro e w1 ⟨rfl, k1⟩
  have F1 := Lib.hid (HF.out.step0 k1)
  have B1 := Lib.hid (B0.out.trans (k1.mono B0.out.size))
  have HC1 := Lib.hid ((HC0.out.below k1).below (below_alloc w1 (.cells #[.int .i64 n, .int .i64 d] 23)))
  have G1 := Lib.hid (Has.new w1 23 #[.int .i64 n, .int .i64 d])
  have F1' := Lib.hid (F1.out.alloc (.cells #[.int .i64 n, .int .i64 d] 23))
  have B1' := Lib.hid (B1.out.alloc B1.out.size (.cells #[.int .i64 n, .int .i64 d] 23))
  clear k1 F1 B1
  go_wp2_with fail
  refine (C2.out _).mono ?_
  rintro e w2 ⟨rfl, k2⟩
  have F2 := Lib.hid ((F1'.out.step0 k2).alloc (.cells #[.int .i64 n, .int .i64 d] 23))
  have G2 := Lib.hid ((G1.out.step0 k2).alloc (.cells #[.int .i64 n, .int .i64 d] 23))
  have H2 := Lib.hid (Has.new w2 23 #[.int .i64 n, .int .i64 d])
  have B2 := Lib.hid ((B1'.out.trans (k2.mono B1'.out.size)).alloc (B1'.out.trans (k2.mono B1'.out.size)).size (.cells #[.int .i64 n, .int .i64 d] 23))
  have HC2 := Lib.hid ((HC1.out.below k2).below (below_alloc w2 (.cells #[.int .i64 n, .int .i64 d] 23)))
  obtain ⟨m1, m2, -, -, l0⟩ := (F1'.out.step0 k2).two
  obtain ⟨m3, m4, -, -, l1⟩ := (G1.out.step0 k2).two
  clear k2 F1' G1 B1' HC1
  generalize w1.heap.size = g1 at *
  obtain ⟨x1, x2, -, -, x5⟩ := G2.out.two
  obtain ⟨y1, y2, -, -, y5⟩ := H2.out.two
  obtain ⟨u1, u2, -, -, u5⟩ := F2.out.two
  clear C1 C2
  by_cases hz : z = 0
  · obtain ⟨v1, v2⟩ := hok hz
    subst hz
    have CS : Hid (∀ w, Cnd w → Calls Tryd.prog 38 #[.agg #[.int .i64 n, .int .i64 d]] w fun e w' => e = .returned (.string s) ∧ Below w.heap.size w w') := Lib.hid (fun w hc => by
      have q := vld_in v1
      have h := FracT.text_any n d w (by omega) (by omega) (by omega) (by omega) hc.tab
      rw [v2] at h
      exact h)
    clear v1 v2 hok
    go_wp2_with fail
    refine (CS.out _ HC2.out).mono ?_
    rintro e w4 ⟨rfl, k4⟩
    have F3 := Lib.hid (F2.out.step0 k4)
    have B3 := Lib.hid (B2.out.trans (k4.mono B2.out.size))
    have HC3 := Lib.hid (HC2.out.below k4)
    clear k4 u1 u2 u5 x1 x2 x5 y1 y2 y5 m1 m2 m3 m4 F2 G2 H2 B2 HC2
    obtain ⟨u1, u2, -, -, u5⟩ := F3.out.two
    go_wp2_with fail
    refine (CV.out _).mono ?_
    rintro e w4 ⟨rfl, k4⟩
    have F4 := Lib.hid (F3.out.step0 k4)
    have B4 := Lib.hid (B3.out.trans (k4.mono B3.out.size))
    have HC4 := Lib.hid (HC3.out.below k4)
    clear k4
    generalize hv : vld a b = v
    have HV := Lib.hid hv
    clear hv
    cases v
    · go_wp2_with fail
      refine (CA.out _ HC4.out).mono ?_
      rintro e w5 ⟨rfl, k5⟩
      go_wp2_with fail
      go_ret
      exact ⟨rfl, B4.out.trans (k5.mono B4.out.size)⟩
    · have CP2 := Lib.hid (CP.out HV.out)
      have CU2 := Lib.hid (CU.out HV.out)
      obtain ⟨u1, u2, -, -, u5⟩ := F4.out.two
      go_wp2_with fail
      refine (CT.out _ HC4.out).mono ?_
      rintro e w5 ⟨rfl, k5⟩
      have F5 := Lib.hid (F4.out.step0 k5)
      have B5 := Lib.hid (B4.out.trans (k5.mono B4.out.size))
      have HC5 := Lib.hid (HC4.out.below k5)
      clear k5 u1 u2 u5
      go_wp2_with fail
      refine (CP2.out _ HC5.out).mono ?_
      rintro e w6 ⟨rfl, k6⟩
      have F6 := Lib.hid ((F5.out.step0 k6).alloc (.cells #[.int .i64 a, .int .i64 b] 23))
      have G6 := Lib.hid (Has.new w6 23 #[.int .i64 a, .int .i64 b])
      have B6 := Lib.hid ((B5.out.trans (k6.mono B5.out.size)).alloc (B5.out.trans (k6.mono B5.out.size)).size (.cells #[.int .i64 a, .int .i64 b] 23))
      have HC6 := Lib.hid ((HC5.out.below k6).below (below_alloc w6 (.cells #[.int .i64 a, .int .i64 b] 23)))
      clear k6
      go_wp2_with fail
      have hk : K w a b w6.heap.size (w6.alloc (.cells #[.int .i64 a, .int .i64 b] 23)).drew := ⟨B6.out.drew, HC6.out.below (Below.refl _ _).drew, F6.out.drew, G6.out.drew⟩
      have HL := Lib.hid (fun f args v w1 => @lift f args v w w1 a b w6.heap.size)
      have CU3 := Lib.hid (fun w (_ : Cnd w) => CU2.out w)
      clear F6 G6 B6 HC6 F5 B5 HC5 F4 B4 HC4 CU2 CU CP CP2 HV
      generalize w6.heap.size = g6 at *
      go_region_held3 (fun w' => w'.cell? ⟨w.heap.size, 0, none⟩ = some (.int .i64 a) ∧ w'.cell? ⟨w.heap.size, 1, none⟩ = some (.int .i64 b) ∧ w'.cell? ⟨g6, 0, none⟩ = some (.int .i64 a) ∧ w'.cell? ⟨g6, 1, none⟩ = some (.int .i64 b) ∧ Hid (K w a b g6 w'))
        (first | exact s_of hk | exact ⟨‹_›, ‹_›, ‹_›, ‹_›, ‹_›⟩)
        (first | (go_at_call 38; go_split_ands; (with_reducible refine (HL.out _ _ _ _ ⟨‹_›, ‹_›, ‹_›, ‹_›, ‹_›⟩ CT.out).mono ?_); rintro e w' ⟨rfl, q1, q2, q3, q4, q5⟩) | (go_at_call 39; go_split_ands; (with_reducible refine (HL.out _ _ _ _ ⟨‹_›, ‹_›, ‹_›, ‹_›, ‹_›⟩ CU3.out).mono ?_); rintro e w' ⟨rfl, q1, q2, q3, q4, q5⟩) | (go_at_call 14; go_split_ands; (with_reducible refine (HL.out _ _ _ _ ⟨‹_›, ‹_›, ‹_›, ‹_›, ‹_›⟩ CA.out).mono ?_); rintro e w' ⟨rfl, q1, q2, q3, q4, q5⟩))
      all_goals go_wp2
      all_goals go_ret
      all_goals exact ⟨rfl, q5.out.1⟩
  · have hz2 : (z == 0) = false := by simpa using hz
    clear hok
    go_wp2_with fail
    refine (CV.out _).mono ?_
    rintro e w4 ⟨rfl, k4⟩
    have F4 := Lib.hid (F2.out.step0 k4)
    have B4 := Lib.hid (B2.out.trans (k4.mono B2.out.size))
    have HC4 := Lib.hid (HC2.out.below k4)
    clear k4
    generalize hv : vld a b = v
    have HV := Lib.hid hv
    clear hv
    cases v
    · go_wp2_with fail
      refine (CA.out _ HC4.out).mono ?_
      rintro e w5 ⟨rfl, k5⟩
      go_wp2_with fail
      go_ret
      exact ⟨rfl, B4.out.trans (k5.mono B4.out.size)⟩
    · have CP2 := Lib.hid (CP.out HV.out)
      have CU2 := Lib.hid (CU.out HV.out)
      obtain ⟨u1, u2, -, -, u5⟩ := F4.out.two
      go_wp2_with fail
      refine (CT.out _ HC4.out).mono ?_
      rintro e w5 ⟨rfl, k5⟩
      have F5 := Lib.hid (F4.out.step0 k5)
      have B5 := Lib.hid (B4.out.trans (k5.mono B4.out.size))
      have HC5 := Lib.hid (HC4.out.below k5)
      clear k5 u1 u2 u5
      go_wp2_with fail
      refine (CP2.out _ HC5.out).mono ?_
      rintro e w6 ⟨rfl, k6⟩
      have F6 := Lib.hid ((F5.out.step0 k6).alloc (.cells #[.int .i64 a, .int .i64 b] 23))
      have G6 := Lib.hid (Has.new w6 23 #[.int .i64 a, .int .i64 b])
      have B6 := Lib.hid ((B5.out.trans (k6.mono B5.out.size)).alloc (B5.out.trans (k6.mono B5.out.size)).size (.cells #[.int .i64 a, .int .i64 b] 23))
      have HC6 := Lib.hid ((HC5.out.below k6).below (below_alloc w6 (.cells #[.int .i64 a, .int .i64 b] 23)))
      clear k6
      go_wp2_with fail
      have hk : K w a b w6.heap.size (w6.alloc (.cells #[.int .i64 a, .int .i64 b] 23)).drew := ⟨B6.out.drew, HC6.out.below (Below.refl _ _).drew, F6.out.drew, G6.out.drew⟩
      have HL := Lib.hid (fun f args v w1 => @lift f args v w w1 a b w6.heap.size)
      have CU3 := Lib.hid (fun w (_ : Cnd w) => CU2.out w)
      clear F6 G6 B6 HC6 F5 B5 HC5 F4 B4 HC4 CU2 CU CP CP2 HV
      generalize w6.heap.size = g6 at *
      go_region_held3 (fun w' => w'.cell? ⟨w.heap.size, 0, none⟩ = some (.int .i64 a) ∧ w'.cell? ⟨w.heap.size, 1, none⟩ = some (.int .i64 b) ∧ w'.cell? ⟨g6, 0, none⟩ = some (.int .i64 a) ∧ w'.cell? ⟨g6, 1, none⟩ = some (.int .i64 b) ∧ Hid (K w a b g6 w'))
        (first | exact s_of hk | exact ⟨‹_›, ‹_›, ‹_›, ‹_›, ‹_›⟩)
        (first | (go_at_call 38; go_split_ands; (with_reducible refine (HL.out _ _ _ _ ⟨‹_›, ‹_›, ‹_›, ‹_›, ‹_›⟩ CT.out).mono ?_); rintro e w' ⟨rfl, q1, q2, q3, q4, q5⟩) | (go_at_call 39; go_split_ands; (with_reducible refine (HL.out _ _ _ _ ⟨‹_›, ‹_›, ‹_›, ‹_›, ‹_›⟩ CU3.out).mono ?_); rintro e w' ⟨rfl, q1, q2, q3, q4, q5⟩) | (go_at_call 14; go_split_ands; (with_reducible refine (HL.out _ _ _ _ ⟨‹_›, ‹_›, ‹_›, ‹_›, ‹_›⟩ CA.out).mono ?_); rintro e w' ⟨rfl, q1, q2, q3, q4, q5⟩))
      all_goals go_wp2
      all_goals go_ret
      all_goals exact ⟨rfl, q5.out.1⟩
end FracBa
end Go.Proofs.YtlamemhfnglfeaaDoor
