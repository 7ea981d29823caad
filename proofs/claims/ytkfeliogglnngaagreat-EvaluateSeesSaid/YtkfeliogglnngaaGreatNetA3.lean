/- law23's alive: the examples hold. No conditions. Made by gnA3.py. -/
import Derived.Test.YtkfeliogglnngaaGreatNetSa
import Derived.Test.YtkfeliogglnngaaGreatNetNx
import Derived.Test.YtkfeliogglnngaaGreatNetTe
import Derived.Test.YtkfeliogglnngaaGreatNetGo
import Derived.Test.YtkfeliogglnngaaGreatGBD
namespace Go.Proofs.YtkfeliogglnngaaGreat
open Go Go.RowKit
namespace NetA3
open Kit LexM TermM TermI TermH NetM NetN NetK NetA NetC NetI NetMk NetNu NetOk NetEv NetBo NetMb NetS NetVa NetVv NetTr NetSa
theorem smp_values {st ip : List Int} {S : List Bool} {er : Int} (hS : evV groundB st ip smpN = S) (hE : evE groundB st ip smpN = er) (h : Nh) (w : World) (k : NetIn (· < w.heap.size) w smpN h) (vs vi : Value) (hs : RowE KN (· < w.heap.size) w st vs) (hi : RowE KN (· < w.heap.size) w ip vi) :
    Calls Tryz.prog 37 #[.agg (netC smpN h), vs, vi] w (ValsE S er w) := by
  subst hS hE
  exact values_any smpN h st ip w.heap.size w vs vi (Nat.le_refl _) k smp_sz hs hi
theorem smp_next {st ip : List Int} {L : List Int} {er : Int} (hS : posE groundB st ip smpN smpN.next = L) (hE : evE groundB st ip smpN = er) (h : Nh) (w : World) (k : NetIn (· < w.heap.size) w smpN h) (vs vi : Value) (hs : RowE KN (· < w.heap.size) w st vs) (hi : RowE KN (· < w.heap.size) w ip vi) :
    Calls Tryz.prog 38 #[.agg (netC smpN h), vs, vi] w (NumE L er w) := by
  subst hS hE
  exact NetNx.next_any smpN h st ip w.heap.size w vs vi (Nat.le_refl _) k smp_sz hs hi
theorem smp_legal {st : List Int} {L : List Int} {er : Int} (hS : posE groundB st [] smpN smpN.legal = L) (hE : evE groundB st [] smpN = er) (h : Nh) (w : World) (k : NetIn (· < w.heap.size) w smpN h) (vs : Value) (hs : RowE KN (· < w.heap.size) w st vs) :
    Calls Tryz.prog 9 #[.agg (netC smpN h), vs] w (NumE L er w) := by
  subst hS hE
  exact NetNx.legal_any smpN h st w.heap.size w vs (Nat.le_refl _) k smp_sz hs
theorem smp_end {st : List Int} {b : Bool} {er : Int} (hS : NetTe.endE groundB st smpN = b) (hE : evE groundB st [] smpN = er) (h : Nh) (w : World) (k : NetIn (· < w.heap.size) w smpN h) (vs : Value) (hs : RowE KN (· < w.heap.size) w st vs) :
    Calls Tryz.prog 11 #[.agg (netC smpN h), vs] w fun e w' => e = .returned (.tuple #[.bool b, .int .i64 er]) ∧ Below w.heap.size w w' := by
  subst hS hE
  exact NetTe.terminal_any smpN h st w.heap.size w vs (Nat.le_refl _) k smp_sz hs
theorem smp_goals {st : List Int} {r : Int} {er : Int} (hE : NetGo.ouE groundB st [] smpN r = er) (h0 : er ≠ 0) (h : Nh) (w : World) (k : NetIn (· < w.heap.size) w smpN h) (vs : Value) (hs : RowE KN (· < w.heap.size) w st vs) :
    Calls Tryz.prog 13 #[.agg (netC smpN h), vs, .int .i64 r] w fun e w' => e = .returned (.tuple #[.slice none 0 0, .int .i64 er]) ∧ Below w.heap.size w w' := by
  subst hE
  exact NetGo.goals_bad smpN h st r w.heap.size w vs (Nat.le_refl _) k smp_sz hs h0
theorem bools_eq (S : List Bool) (w : World) (v v' : Value) (ha : RowE KB (· < w.heap.size) w S v) (hl : RowE KB (· < w.heap.size) w S v') :
    Calls Tryz.prog 27 #[v, v'] w fun e w' => e = .returned (.bool true) ∧ Below w.heap.size w w' :=
  (NetBz.bools_any S S _ _ w v v' ha hl (fun _ h => h) (fun _ h => h)).mono fun _ _ h => ⟨by rw [h.1, decide_eq_true rfl], h.2⟩
theorem ints_eq (S : List Int) (w : World) (v v' : Value) (ha : RowE KN (· < w.heap.size) w S v) (hl : RowE KN (· < w.heap.size) w S v') :
    Calls Tryz.prog 15 #[v, v'] w fun e w' => e = .returned (.bool true) ∧ Below w.heap.size w w' :=
  (NetZ.ints_any S S _ _ w v v' ha hl (fun _ h => h) (fun _ h => h)).mono fun _ _ h => ⟨by rw [h.1, decide_eq_true rfl], h.2⟩
/-- A literal slice of numbers, of bools. -/
theorem lit_n (w : World) {g : Nat} (hg : w.heap.size = g) (L : List Int) (cs : Array Value) (hc : cs.toList = L.flatMap KN.cells) (hm : L.length ≤ maxLen) (hi : ∀ x ∈ L, I64 x) : RowE KN (· < (w.alloc (.cells cs 3)).heap.size) (w.alloc (.cells cs 3)) L (.slice (some ⟨g, 0, none⟩) L.length L.length) :=
  hg ▸ row_has hc (Has.new _ _ _) (by simp) hm hi
theorem lit_b (w : World) {g : Nat} (hg : w.heap.size = g) (L : List Bool) (cs : Array Value) (hc : cs.toList = L.flatMap KB.cells) (hm : L.length ≤ maxLen) : RowE KB (· < (w.alloc (.cells cs 4)).heap.size) (w.alloc (.cells cs 4)) L (.slice (some ⟨g, 0, none⟩) L.length L.length) :=
  hg ▸ row_has hc (Has.new _ _ _) (by simp) hm (fun _ _ => trivial)
theorem row_on {α : Type} {K : Ke α} {B : Nat} {w w' : World} {L : List α} {v : Value} (h : RowE K (fun b => B ≤ b ∧ b < w.heap.size) w L v) (q : Below w.heap.size w w') : RowE K (· < w'.heap.size) w' L v := (h.keep fun b o hb => q.cell (p := ⟨b, o, none⟩) hb.2).wide fun _ hb => Nat.lt_of_lt_of_le hb.2 q.size
theorem i64_0 : I64 0 := by unfold I64; omega
theorem i64_1 : I64 1 := by unfold I64; omega
theorem smp_e1 : evV groundB [0] [] smpN = [true, false, false] := by kernel_rfl
theorem smp_e2 : evE groundB [0] [] smpN = 0 := by kernel_rfl
theorem smp_e3 : evV groundB [] [] smpN = [false, true, false] := by kernel_rfl
theorem smp_e4 : evE groundB [] [] smpN = 0 := by kernel_rfl
theorem smp_e5 : posE groundB [0] [] smpN smpN.next = [] := by kernel_rfl
theorem smp_e6 : posE groundB [0] [] smpN smpN.legal = [0] := by kernel_rfl
theorem smp_e7 : NetTe.endE groundB [] smpN = true := by kernel_rfl
theorem smp_e8 : NetTe.endE groundB [0] smpN = false := by kernel_rfl
theorem smp_e9 : evE groundB [1] [] smpN = 14 := by kernel_rfl
theorem smp_e10 : evV groundB [1] [] smpN = [] := by kernel_rfl
theorem smp_e11 : evE groundB [0] [0, 0] smpN = 15 := by kernel_rfl
theorem smp_e12 : evV groundB [0] [0, 0] smpN = [] := by kernel_rfl
theorem smp_e13 : NetGo.ouE groundB [] [] smpN 1 = 8 := by kernel_rfl
set_option maxRecDepth 100000 in
set_option maxHeartbeats 6400000 in
theorem alive_any (w : World) : Calls Tryz.prog 8 #[] w fun e w' => e = .returned (.bool true) ∧ Below w.heap.size w w' := by
  have S0 := Lib.hid (sample_any w)
  go_enter Tryz.func8, Tryz.ntmps8
  go_wp2_with fail
  refine S0.out.mono ?_
  rintro e w1 ⟨h, rfl, hn, b1⟩
  obtain ⟨Wb, hWb⟩ : ∃ z, z = w1.alloc (.cells (netC smpN h) 28) := ⟨_, rfl⟩
  have BW1 : Hid (Below w1.heap.size w1 Wb) := Lib.hid (by rw [hWb]; exact below_alloc _ _)
  have BB : Hid (Below w.heap.size w Wb) := Lib.hid (next0 b1 BW1.out)
  have HN : Hid (Has Wb w1.heap.size (netC smpN h)) := Lib.hid (by rw [hWb]; exact Has.new _ _ _)
  have HQ := Lib.hid (fun w' (q : Below Wb.heap.size Wb w') => hasN (HN.out.step0 q))
  have NB := Lib.hid (fun w' (q : Below Wb.heap.size Wb w') => ((hn.keep (w' := w') fun b o hb => ((BW1.out.trans (q.mono BW1.out.size)).cell (p := ⟨b, o, none⟩) hb.2)).wide (ok' := (· < w'.heap.size)) fun b hb => Nat.lt_of_lt_of_le hb.2 (Nat.le_trans BW1.out.size q.size)))
  have ZB := Lib.hid BB.out.size
  have D0 : Hid (Below Wb.heap.size Wb Wb) := Lib.hid (Below.refl _ _)
  clear hn b1 S0
  go_upto_region 2 with fail
  rw [← hWb]
  clear hWb
  obtain ⟨q1, q2, q3, q4, q5, q6, q7, q8, q9, q10, q11⟩ := HQ.out Wb D0.out
  have C1 := Lib.hid (smp_values smp_e1 smp_e2 h (Wb.alloc (.cells #[.int .i64 0] 3)) (NB.out _ (next0 D0.out (below_alloc _ _))) (.slice (some ⟨Wb.heap.size, 0, none⟩) 1 1) (.slice none 0 0) (lit_n Wb rfl [0] #[.int .i64 0] rfl (by decide) (fun x hx => by rw [List.mem_singleton.1 hx]; exact i64_0)) (RowE.nil _ _))
  go_wp2_with fail
  refine C1.out.mono ?_
  rintro e w2 ⟨v1, rfl, hv1, g1⟩
  have J1 : Hid (Below Wb.heap.size Wb w2) := Lib.hid (next0 (below_alloc _ _) g1)
  have D1 := Lib.hid (next0 D0.out J1.out)
  have G1 := Lib.hid hv1
  obtain ⟨p1, c1, rfl⟩ := hv1.form
  clear hv1
  clear g1 C1 q1 q2 q3 q4 q5 q6 q7 q8 q9 q10 q11
  obtain ⟨q1, q2, q3, q4, q5, q6, q7, q8, q9, q10, q11⟩ := HQ.out w2 D1.out
  have C2 := Lib.hid (smp_values smp_e3 smp_e4 h w2 (NB.out _ D1.out) (.slice none 0 0) (.slice none 0 0) (RowE.nil _ _) (RowE.nil _ _))
  go_wp2_with fail
  refine C2.out.mono ?_
  rintro e w3 ⟨v2, rfl, hv2, g2⟩
  have J2 : Hid (Below w2.heap.size w2 w3) := Lib.hid (g2)
  have D2 := Lib.hid (next0 D1.out J2.out)
  have G2 := Lib.hid hv2
  obtain ⟨p2, c2, rfl⟩ := hv2.form
  clear hv2
  clear g2 C2 q1 q2 q3 q4 q5 q6 q7 q8 q9 q10 q11
  have C3 := Lib.hid (bools_eq [true, false, false] (w3.alloc (.cells #[.bool true, .bool false, .bool false] 4)) _ (.slice (some ⟨w3.heap.size, 0, none⟩) 3 3) (row_on G1.out (next0 J2.out (below_alloc _ _))) (lit_b w3 rfl [true, false, false] #[.bool true, .bool false, .bool false] rfl (by decide)))
  go_wp2_with fail
  refine C3.out.mono ?_
  rintro e w4 ⟨rfl, g3⟩
  have J3 : Hid (Below w3.heap.size w3 w4) := Lib.hid (next0 (below_alloc _ _) g3)
  have D3 := Lib.hid (next0 D2.out J3.out)
  clear g3 C3 
  have C4 := Lib.hid (bools_eq [false, true, false] (w4.alloc (.cells #[.bool false, .bool true, .bool false] 4)) _ (.slice (some ⟨w4.heap.size, 0, none⟩) 3 3) (row_on G2.out (next0 J3.out (below_alloc _ _))) (lit_b w4 rfl [false, true, false] #[.bool false, .bool true, .bool false] rfl (by decide)))
  go_wp2_with fail
  refine C4.out.mono ?_
  rintro e w5 ⟨rfl, g4⟩
  have J4 : Hid (Below w4.heap.size w4 w5) := Lib.hid (next0 (below_alloc _ _) g4)
  have D4 := Lib.hid (next0 D3.out J4.out)
  clear g4 C4 
  obtain ⟨q1, q2, q3, q4, q5, q6, q7, q8, q9, q10, q11⟩ := HQ.out w5 D4.out
  have C5 := Lib.hid (smp_next smp_e5 smp_e2 h (w5.alloc (.cells #[.int .i64 0] 3)) (NB.out _ (next0 D4.out (below_alloc _ _))) (.slice (some ⟨w5.heap.size, 0, none⟩) 1 1) (.slice none 0 0) (lit_n w5 rfl [0] #[.int .i64 0] rfl (by decide) (fun x hx => by rw [List.mem_singleton.1 hx]; exact i64_0)) (RowE.nil _ _))
  go_wp2_with fail
  refine C5.out.mono ?_
  rintro e w6 ⟨v5, rfl, hv5, g5⟩
  have J5 : Hid (Below w5.heap.size w5 w6) := Lib.hid (next0 (below_alloc _ _) g5)
  have D5 := Lib.hid (next0 D4.out J5.out)
  have G5 := Lib.hid hv5
  obtain ⟨p5, c5, rfl⟩ := hv5.form
  clear hv5
  clear g5 C5 q1 q2 q3 q4 q5 q6 q7 q8 q9 q10 q11
  obtain ⟨q1, q2, q3, q4, q5, q6, q7, q8, q9, q10, q11⟩ := HQ.out w6 D5.out
  have C6 := Lib.hid (smp_legal smp_e6 smp_e2 h (w6.alloc (.cells #[.int .i64 0] 3)) (NB.out _ (next0 D5.out (below_alloc _ _))) (.slice (some ⟨w6.heap.size, 0, none⟩) 1 1) (lit_n w6 rfl [0] #[.int .i64 0] rfl (by decide) (fun x hx => by rw [List.mem_singleton.1 hx]; exact i64_0)))
  go_wp2_with fail
  refine C6.out.mono ?_
  rintro e w7 ⟨v6, rfl, hv6, g6⟩
  have J6 : Hid (Below w6.heap.size w6 w7) := Lib.hid (next0 (below_alloc _ _) g6)
  have D6 := Lib.hid (next0 D5.out J6.out)
  have G6 := Lib.hid hv6
  obtain ⟨p6, c6, rfl⟩ := hv6.form
  clear hv6
  clear g6 C6 q1 q2 q3 q4 q5 q6 q7 q8 q9 q10 q11
  have C7 := Lib.hid (ints_eq [0] (w7.alloc (.cells #[.int .i64 0] 3)) _ (.slice (some ⟨w7.heap.size, 0, none⟩) 1 1) (row_on G6.out (below_alloc _ _)) (lit_n w7 rfl [0] #[.int .i64 0] rfl (by decide) (fun x hx => by rw [List.mem_singleton.1 hx]; exact i64_0)))
  go_wp2_with fail
  refine C7.out.mono ?_
  rintro e w8 ⟨rfl, g7⟩
  have J7 : Hid (Below w7.heap.size w7 w8) := Lib.hid (next0 (below_alloc _ _) g7)
  have D7 := Lib.hid (next0 D6.out J7.out)
  clear g7 C7 
  obtain ⟨q1, q2, q3, q4, q5, q6, q7, q8, q9, q10, q11⟩ := HQ.out w8 D7.out
  have C8 := Lib.hid (smp_end smp_e7 smp_e4 h w8 (NB.out _ D7.out) (.slice none 0 0) (RowE.nil _ _))
  go_wp2_with fail
  refine C8.out.mono ?_
  rintro e w9 ⟨rfl, g8⟩
  have J8 : Hid (Below w8.heap.size w8 w9) := Lib.hid (g8)
  have D8 := Lib.hid (next0 D7.out J8.out)
  clear g8 C8 q1 q2 q3 q4 q5 q6 q7 q8 q9 q10 q11
  obtain ⟨q1, q2, q3, q4, q5, q6, q7, q8, q9, q10, q11⟩ := HQ.out w9 D8.out
  have C9 := Lib.hid (smp_end smp_e8 smp_e2 h (w9.alloc (.cells #[.int .i64 0] 3)) (NB.out _ (next0 D8.out (below_alloc _ _))) (.slice (some ⟨w9.heap.size, 0, none⟩) 1 1) (lit_n w9 rfl [0] #[.int .i64 0] rfl (by decide) (fun x hx => by rw [List.mem_singleton.1 hx]; exact i64_0)))
  go_wp2_with fail
  refine C9.out.mono ?_
  rintro e w10 ⟨rfl, g9⟩
  have J9 : Hid (Below w9.heap.size w9 w10) := Lib.hid (next0 (below_alloc _ _) g9)
  have D9 := Lib.hid (next0 D8.out J9.out)
  clear g9 C9 q1 q2 q3 q4 q5 q6 q7 q8 q9 q10 q11
  obtain ⟨q1, q2, q3, q4, q5, q6, q7, q8, q9, q10, q11⟩ := HQ.out w10 D9.out
  have C10 := Lib.hid (smp_values smp_e10 smp_e9 h (w10.alloc (.cells #[.int .i64 1] 3)) (NB.out _ (next0 D9.out (below_alloc _ _))) (.slice (some ⟨w10.heap.size, 0, none⟩) 1 1) (.slice none 0 0) (lit_n w10 rfl [1] #[.int .i64 1] rfl (by decide) (fun x hx => by rw [List.mem_singleton.1 hx]; exact i64_1)) (RowE.nil _ _))
  go_wp2_with fail
  refine C10.out.mono ?_
  rintro e w11 ⟨v10, rfl, hv10, g10⟩
  have J10 : Hid (Below w10.heap.size w10 w11) := Lib.hid (next0 (below_alloc _ _) g10)
  have D10 := Lib.hid (next0 D9.out J10.out)
  have G10 := Lib.hid hv10
  obtain ⟨p10, c10, rfl⟩ := hv10.form
  clear hv10
  clear g10 C10 q1 q2 q3 q4 q5 q6 q7 q8 q9 q10 q11
  obtain ⟨q1, q2, q3, q4, q5, q6, q7, q8, q9, q10, q11⟩ := HQ.out w11 D10.out
  have C11 := Lib.hid (smp_values smp_e12 smp_e11 h ((w11.alloc (.cells #[.int .i64 0] 3)).alloc (.cells #[.int .i64 0, .int .i64 0] 3)) (NB.out _ (next0 D10.out (next0 (below_alloc _ _) (below_alloc _ _)))) (.slice (some ⟨w11.heap.size, 0, none⟩) 1 1) (.slice (some ⟨w11.heap.size + 1, 0, none⟩) 2 2) (((lit_n w11 rfl [0] #[.int .i64 0] rfl (by decide) (fun x hx => by rw [List.mem_singleton.1 hx]; exact i64_0)).keep fun b o (hb : b < _) => (below_alloc _ _).cell (p := ⟨b, o, none⟩) hb).wide fun _ hb => Nat.lt_of_lt_of_le hb (below_alloc _ _).size) (lit_n (w11.alloc (.cells #[.int .i64 0] 3)) (by simp) [0, 0] #[.int .i64 0, .int .i64 0] rfl (by decide) (fun x hx => by simp at hx; rcases hx with rfl | rfl <;> first | exact i64_0 | exact i64_1)))
  go_wp2_with fail
  refine C11.out.mono ?_
  rintro e w12 ⟨v11, rfl, hv11, g11⟩
  have J11 : Hid (Below w11.heap.size w11 w12) := Lib.hid (next0 (next0 (below_alloc _ _) (below_alloc _ _)) g11)
  have D11 := Lib.hid (next0 D10.out J11.out)
  have G11 := Lib.hid hv11
  obtain ⟨p11, c11, rfl⟩ := hv11.form
  clear hv11
  clear g11 C11 q1 q2 q3 q4 q5 q6 q7 q8 q9 q10 q11
  obtain ⟨q1, q2, q3, q4, q5, q6, q7, q8, q9, q10, q11⟩ := HQ.out w12 D11.out
  have C12 := Lib.hid (smp_goals smp_e13 (by decide) h w12 (NB.out _ D11.out) (.slice none 0 0) (RowE.nil _ _))
  go_wp2_with fail
  refine C12.out.mono ?_
  rintro e w13 ⟨rfl, g12⟩
  have J12 : Hid (Below w12.heap.size w12 w13) := Lib.hid (g12)
  have D12 := Lib.hid (next0 D11.out J12.out)
  clear g12 C12 q1 q2 q3 q4 q5 q6 q7 q8 q9 q10 q11
  have DF := Lib.hid (next0 BB.out D12.out)
  go_wp2_with fail
  go_ret
  exact ⟨rfl, DF.out⟩
end NetA3
end Go.Proofs.YtkfeliogglnngaaGreat
