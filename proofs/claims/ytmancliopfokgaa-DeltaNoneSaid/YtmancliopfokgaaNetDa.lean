/- law24's alive: the examples hold. No conditions. Made by gnDa.py. -/
import Derived.Test.YtmancliopfokgaaNetEg
import Derived.Test.YtmancliopfokgaaNetSa
import Derived.Test.YtmancliopfokgaaGBD
import Derived.Test.YtmancliopfokgaaNetDk
namespace Go.Proofs.Ytmancliopfokgaa
open Go Go.RowKit
namespace NetDa
open Kit TermM TermI TermH NetM NetN NetK NetA NetC NetI NetMk NetNu NetOk NetEv NetBo NetMb NetS NetDn NetDp NetEm NetLt NetDx NetDw NetDs NetDt NetDe NetEg NetSa
theorem bools_eq (S : List Bool) (w : World) (v v' : Value) (ha : RowE KB (· < w.heap.size) w S v) (hl : RowE KB (· < w.heap.size) w S v') :
    Calls Try.prog 14 #[v, v'] w fun e w' => e = .returned (.bool true) ∧ Below w.heap.size w w' :=
  (NetBz.bools_any S S _ _ w v v' ha hl (fun _ h => h) (fun _ h => h)).mono fun _ _ h => ⟨by rw [h.1, decide_eq_true rfl], h.2⟩
theorem ints_eq (S : List Int) (w : World) (v v' : Value) (ha : RowE KN (· < w.heap.size) w S v) (hl : RowE KN (· < w.heap.size) w S v') :
    Calls Try.prog 16 #[v, v'] w fun e w' => e = .returned (.bool true) ∧ Below w.heap.size w w' :=
  (NetZ.ints_any S S _ _ w v v' ha hl (fun _ h => h) (fun _ h => h)).mono fun _ _ h => ⟨by rw [h.1, decide_eq_true rfl], h.2⟩
theorem lit_n (w : World) {g : Nat} (hg : w.heap.size = g) (L : List Int) (cs : Array Value) (hc : cs.toList = L.flatMap KN.cells) (hm : L.length ≤ maxLen) (hi : ∀ x ∈ L, I64 x) : RowE KN (· < (w.alloc (.cells cs 3)).heap.size) (w.alloc (.cells cs 3)) L (.slice (some ⟨g, 0, none⟩) L.length L.length) :=
  hg ▸ row_has hc (Has.new _ _ _) (by simp) hm hi
theorem lit_b (w : World) {g : Nat} (hg : w.heap.size = g) (L : List Bool) (cs : Array Value) (hc : cs.toList = L.flatMap KB.cells) (hm : L.length ≤ maxLen) : RowE KB (· < (w.alloc (.cells cs 4)).heap.size) (w.alloc (.cells cs 4)) L (.slice (some ⟨g, 0, none⟩) L.length L.length) :=
  hg ▸ row_has hc (Has.new _ _ _) (by simp) hm (fun _ _ => trivial)
theorem i64_0 : I64 0 := by unfold I64; omega
theorem v0 : valsN [] [] smpN = [false, true, false] := by kernel_rfl
theorem v1 : valsN [0] [] smpN = [true, false, false] := by kernel_rfl
theorem v2 : valsN [0] [0] smpN = [true, false, false] := by kernel_rfl
theorem c1 : chN (valsN [] [] smpN) (valsN [0] [] smpN) smpN.gates.length = 2 := by kernel_rfl
theorem k1 : wkN (valsN [] [] smpN) (valsN [0] [] smpN) smpN smpN.gates.length = 2 := by kernel_rfl
theorem c2 : chN (valsN [0] [] smpN) (valsN [0] [0] smpN) smpN.gates.length = 0 := by kernel_rfl
theorem k2 : wkN (valsN [0] [] smpN) (valsN [0] [0] smpN) smpN smpN.gates.length = 0 := by kernel_rfl
theorem b1 : numsB [0] smpN.bases.length = true ∧ numsB [] smpN.inputs.length = true := ⟨by kernel_rfl, by kernel_rfl⟩
theorem b2 : numsB [0] smpN.bases.length = true ∧ numsB [0] smpN.inputs.length = true := ⟨by kernel_rfl, by kernel_rfl⟩
theorem g0 : valB (valsN [0] [0] smpN) 0 = true := by rw [v2]; decide
theorem g1 : valB (valsN [0] [0] smpN) 1 = false := by rw [v2]; decide
theorem g3 : valB (valsN [0] [0] smpN) 3 = false := by rw [v2]; decide
theorem s3 : smpN.gates.length ≤ 1000000 := by decide
theorem sb : smpN.bases.length ≤ 1000000 := by decide
theorem si : smpN.inputs.length ≤ 1000000 := by decide
section
variable {B ge gb gv : Nat} {wk : Int} {w : World}
theorem set1 (h : Eg smpN B ge gb gv [] [] wk w) : Calls Try.prog 19 #[.pointer (some ⟨ge, 0, none⟩), .slice (some ⟨w.heap.size, 0, none⟩) 1 1, .slice none 0 0] (w.alloc (.cells #[.int .i64 0] 3)) fun e w' => e = .returned (.tuple #[.int .i64 2, .int .i64 0]) ∧ Eg smpN B ge gb gv [0] [] 2 w' ∧ Lt (ex3 ge gb gv) w w' := by
  have := set_eg smp_ok sb si b1 (h.below (below_alloc _ _)) (lit_n w rfl [0] #[.int .i64 0] rfl (by decide) (fun x hx => by rw [List.mem_singleton.1 hx]; exact i64_0)) (RowE.nil _ _)
  rw [c1, k1] at this
  exact this.mono fun e w' h => ⟨h.1, h.2.1, (Lt.of (below_alloc _ _)).trans h.2.2⟩
theorem set2 (h : Eg smpN B ge gb gv [0] [] wk w) : Calls Try.prog 19 #[.pointer (some ⟨ge, 0, none⟩), .slice (some ⟨w.heap.size, 0, none⟩) 1 1, .slice (some ⟨w.heap.size + 1, 0, none⟩) 1 1] ((w.alloc (.cells #[.int .i64 0] 3)).alloc (.cells #[.int .i64 0] 3)) fun e w' => e = .returned (.tuple #[.int .i64 0, .int .i64 0]) ∧ Eg smpN B ge gb gv [0] [0] 0 w' ∧ Lt (ex3 ge gb gv) w w' := by
  have l0 := lit_n w rfl [0] #[.int .i64 0] rfl (by decide) (fun x hx => by rw [List.mem_singleton.1 hx]; exact i64_0)
  have l1 := lit_n (w.alloc (.cells #[.int .i64 0] 3)) (g := w.heap.size + 1) (by simp) [0] #[.int .i64 0] rfl (by decide) (fun x hx => by rw [List.mem_singleton.1 hx]; exact i64_0)
  have := set_eg smp_ok sb si b2 ((h.below (below_alloc _ _)).below (below_alloc _ (.cells #[.int .i64 0] 3))) ((l0.keep fun b o (hb : b < _) => (below_alloc _ _).cell (p := ⟨b, o, none⟩) hb).wide fun _ hb => Nat.lt_of_lt_of_le hb (below_alloc _ _).size) l1
  rw [c2, k2] at this
  exact this.mono fun e w' h => ⟨h.1, h.2.1, ((Lt.of (below_alloc _ _)).trans (Lt.of (below_alloc _ _))).trans h.2.2⟩
end
set_option maxRecDepth 100000 in
set_option maxHeartbeats 6400000 in
theorem alive_any : NetDk.Alive24 := by
  intro w
  have S0 := Lib.hid (sample_any w)
  go_enter Try.func9, Try.ntmps9
  go_wp2_with fail
  refine S0.out.mono ?_
  rintro e w1 ⟨h, rfl, hn, b1⟩
  have N1 := Lib.hid (new_eg h (hn.wide fun _ hb => hb.2) smp_sz smp_ok)
  have D1 := Lib.hid b1
  clear hn b1 S0
  go_wp2_with fail
  refine N1.out.mono ?_
  rintro e w2 ⟨ge, gb, gv, rfl, hE, g2⟩
  have E2 := Lib.hid hE
  have D2 := Lib.hid (next0 D1.out g2)
  have W12 : Hid (w1.heap.size ≤ w2.heap.size) := Lib.hid g2.size
  clear hE g2 N1
  have V2 := Lib.hid (values_eg s3 E2.out)
  go_wp2_with fail
  refine V2.out.mono ?_
  rintro e w3 ⟨v3, rfl, hv3, g3⟩
  rw [v0] at hv3
  have E3 := Lib.hid (E2.out.below g3)
  have D3 := Lib.hid (next0 D2.out g3)
  have W13 : Hid (w1.heap.size ≤ w3.heap.size) := Lib.hid (by have := g3.size; have := W12.out; omega)
  have R3 := Lib.hid ((hv3.keep (w' := w3.alloc (.cells #[.bool false, .bool true, .bool false] 4)) fun b o hb => (below_alloc _ _).cell (p := ⟨b, o, none⟩) hb.2).wide (ok' := (· < (w3.alloc (.cells #[.bool false, .bool true, .bool false] 4)).heap.size)) fun _ hb => Nat.lt_of_lt_of_le hb.2 (below_alloc _ _).size)
  obtain ⟨p3, c3, rfl⟩ := hv3.form
  have C4 := Lib.hid (bools_eq [false, true, false] _ _ _ R3.out (lit_b w3 rfl [false, true, false] #[.bool false, .bool true, .bool false] rfl (by decide)))
  clear hv3 g3 V2 E2
  go_wp2_with fail
  refine C4.out.mono ?_
  rintro e w4 ⟨rfl, g4⟩
  have E4 := Lib.hid ((E3.out.below (below_alloc _ _)).below g4)
  have D4 := Lib.hid (next0 D3.out (next0 (below_alloc _ _) g4))
  have W14 : Hid (w1.heap.size ≤ w4.heap.size ∧ w.heap.size ≤ w1.heap.size) := Lib.hid ⟨by have := (next0 (below_alloc w3 _) g4).size; have := W13.out; omega, D1.out.size⟩
  clear g4 C4 R3 E3
  have C5 := Lib.hid (set1 E4.out)
  go_wp2_with fail
  refine C5.out.mono ?_
  rintro e w5 ⟨rfl, hE, hL⟩
  have E5 := Lib.hid hE
  have D5 := Lib.hid (D4.out.trans ((hE.lt W14.out.1 hL).mono W14.out.2))
  have S5 := Lib.hid hL.size
  clear hE hL C5
  have C6 := Lib.hid (work_eg E5.out)
  go_wp2_with fail
  refine C6.out.mono ?_
  rintro e w6 ⟨rfl, rfl⟩
  clear C6
  have C7 := Lib.hid (set2 E5.out)
  go_wp2_with fail
  refine C7.out.mono ?_
  rintro e w7 ⟨rfl, hE, hL⟩
  have E7 := Lib.hid hE
  have D7 := Lib.hid (D5.out.trans ((hE.lt (Nat.le_trans W14.out.1 S5.out) hL).mono W14.out.2))
  clear hE hL C7
  have C8 := Lib.hid (state_eg sb si b2 E7.out)
  go_wp2_with fail
  refine C8.out.mono ?_
  rintro e w8 ⟨u8, v8, rfl, hu, hv, g8⟩
  have E8 := Lib.hid (E7.out.below g8)
  have D8 := Lib.hid (next0 D7.out g8)
  have U8 := Lib.hid hu
  have V8 := Lib.hid hv
  obtain ⟨p8, d8, rfl⟩ := (hu w8 (Below.refl _ _)).form
  obtain ⟨q8, f8, rfl⟩ := (hv w8 (Below.refl _ _)).form
  clear hu hv g8 C8
  have C9 := Lib.hid (work_eg E8.out)
  go_wp2_with fail
  refine C9.out.mono ?_
  rintro e w9 ⟨rfl, rfl⟩
  clear C9
  have C9 := Lib.hid (ints_eq [0] _ _ _ (U8.out (w8.alloc (.cells #[.int .i64 0] 3)) (below_alloc _ _)) (lit_n w8 rfl [0] #[.int .i64 0] rfl (by decide) (fun x hx => by rw [List.mem_singleton.1 hx]; exact i64_0)))
  go_wp2_with fail
  refine C9.out.mono ?_
  rintro e w9 ⟨rfl, g9⟩
  have J9 : Hid (Below w8.heap.size w8 w9) := Lib.hid (next0 (below_alloc _ _) g9)
  have E9 := Lib.hid (E8.out.below J9.out)
  have D9 := Lib.hid (next0 D8.out J9.out)
  have V9 := Lib.hid (V8.out.step J9.out)
  clear g9 C9
  have C9 := Lib.hid (ints_eq [0] _ _ _ (V9.out (w9.alloc (.cells #[.int .i64 0] 3)) (below_alloc _ _)) (lit_n w9 rfl [0] #[.int .i64 0] rfl (by decide) (fun x hx => by rw [List.mem_singleton.1 hx]; exact i64_0)))
  go_wp2_with fail
  refine C9.out.mono ?_
  rintro e wa ⟨rfl, ga⟩
  have JA : Hid (Below w9.heap.size w9 wa) := Lib.hid (next0 (below_alloc _ _) ga)
  have EA := Lib.hid (E9.out.below JA.out)
  have DA := Lib.hid (next0 D9.out JA.out)
  clear ga C9
  have X0 := Lib.hid (value_eg 0 s3 EA.out)
  have X1 := Lib.hid (value_eg 1 s3 EA.out)
  have X3 := Lib.hid (value_eg 3 s3 EA.out)
  rw [g0] at X0
  rw [g1] at X1
  rw [g3] at X3
  go_wp2_with fail
  refine X0.out.mono ?_
  rintro e wb ⟨rfl, rfl⟩
  clear X0
  go_wp2_with fail
  refine X1.out.mono ?_
  rintro e wb ⟨rfl, rfl⟩
  clear X1
  go_wp2_with fail
  refine X3.out.mono ?_
  rintro e wb ⟨rfl, rfl⟩
  clear X3
  go_wp2_with fail
  go_ret
  exact ⟨rfl, DA.out⟩
end NetDa
end Go.Proofs.Ytmancliopfokgaa
