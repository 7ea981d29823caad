/- Texts laid together: NetEg; NetDa; NetBt; NetPs; NetLx; NetSb; NetDz. Their own heads stand before each. -/
import Derived.Test.YtgbbpliihglijaaNetDe
import Derived.Test.YtgbbpliihglijaaNetDv
import Derived.Test.YtgbbpliihglijaaNetSa
import Derived.Test.YtgbbpliihglijaaGBD
import Derived.Test.YtgbbpliihglijaaNetBp
import Derived.Test.YtgbbpliihglijaaGBB
/- delta's engine as the laws see it: New, Set, Values, Value, Work, State. Conditions: a valid network. Made by gnEg.py. -/
namespace Go.Proofs.Ytgbbpliihglijaa
open Go Go.RowKit
namespace NetEg
open Kit TermM TermI TermH NetM NetN NetK NetA NetC NetI NetMk NetNu NetOk NetEv NetBo NetMb NetS NetDn NetDp NetEm NetLt NetDx NetDw NetDs NetDt NetDe
/-- A live engine of a network, set to bases and inputs; its blocks lie from B on. -/
def Eg (n : Nt) (B ge gb gv : Nat) (st ip : List Int) (wk : Int) (w : World) : Prop :=
  (∃ (cb : Nat) (R : List Value) (vf vm : Value), EngU n ge gb gv cb n.gates.length R (valsN st ip n) (memB st n.bases.length) (memB ip n.inputs.length) vf vm wk w) ∧ B ≤ ge ∧ B ≤ gb ∧ B ≤ gv
section
variable {n : Nt} {B ge gb gv : Nat} {st ip st0 ip0 : List Int} {wk : Int} {w w' : World}
theorem Eg.below (h : Eg n B ge gb gv st ip wk w) (q : Below w.heap.size w w') : Eg n B ge gb gv st ip wk w' := by
  obtain ⟨⟨cb, R, vf, vm, h1⟩, h2⟩ := h
  exact ⟨⟨cb, R, vf, vm, EngU.below h1 q⟩, h2⟩
theorem Eg.self (h : Eg n B ge gb gv st ip wk w) : w.cell? ⟨ge, 0, none⟩ = some (.pointer (some ⟨ge, 0, none⟩)) := by
  obtain ⟨⟨cb, R, vf, vm, h1⟩, _⟩ := h
  exact h1.eng.self
theorem Eg.row (h : Eg n B ge gb gv st ip wk w) (hm : n.gates.length ≤ 1000000) : RowE KB (· < w.heap.size) w (valsN st ip n) (.slice (some ⟨gv, 0, none⟩) (valsN st ip n).length n.gates.length) := by
  obtain ⟨⟨cb, R, vf, vm, h1⟩, _⟩ := h
  refine ⟨_, _, rfl, (fun e => by cases e), by rw [h1.eng.lenV]; exact Nat.le_refl _, by unfold maxLen; omega, fun _ _ => trivial, fun _ => ⟨gv, 0, rfl, h1.ltv, fun i x hx j u hu => ?_⟩⟩
  have hj : j < [Value.bool x].length := (List.getElem?_eq_some_iff.1 hu).1
  obtain rfl : j = 0 := by simp at hj; omega
  have e : Value.bool x = u := Option.some.inj hu
  have e2 : 0 + i * KB.sz + 0 = i := by show 0 + i * 1 + 0 = i; omega
  rw [← e, e2]
  exact h1.eng.val i x hx
theorem values_eg (hm : n.gates.length ≤ 1000000) (h : Eg n B ge gb gv st ip wk w) : Calls Try.prog 10 #[.pointer (some ⟨ge, 0, none⟩)] w (BlE (valsN st ip n) w) := by
  obtain ⟨⟨cb, R, vf, vm, h1⟩, h2⟩ := id h
  exact NetDv.values_live ge _ w _ _ _ h.self (by rw [h1.eng.lenV]; exact h1.eng.values) (h.row hm) (fun _ hb => hb) (by rw [h1.eng.lenV]; exact hm)
theorem value_eg (g : Int) (hm : n.gates.length ≤ 1000000) (h : Eg n B ge gb gv st ip wk w) : Calls Try.prog 24 #[.pointer (some ⟨ge, 0, none⟩), .int .i64 g] w fun e w' => e = .returned (.bool (valB (valsN st ip n) g)) ∧ w = w' := by
  obtain ⟨⟨cb, R, vf, vm, h1⟩, h2⟩ := id h
  exact value_live ge _ g w _ _ _ h.self (by rw [h1.eng.lenV]; exact h1.eng.values) (h.row hm) (fun _ hb => hb)
theorem work_eg (h : Eg n B ge gb gv st ip wk w) : Calls Try.prog 11 #[.pointer (some ⟨ge, 0, none⟩)] w fun e w' => e = .returned (.int .i64 wk) ∧ w = w' := by
  obtain ⟨⟨cb, R, vf, vm, h1⟩, h2⟩ := id h
  exact work_live ge wk w h.self h1.f5
theorem state_eg (hb : n.bases.length ≤ 1000000) (hi : n.inputs.length ≤ 1000000) (b1 : numsB st n.bases.length = true ∧ numsB ip n.inputs.length = true) (h : Eg n B ge gb gv st ip wk w) : Calls Try.prog 12 #[.pointer (some ⟨ge, 0, none⟩)] w (StaE st ip w) := by
  obtain ⟨⟨cb, R, vf, vm, h1⟩, h2⟩ := h
  have := state_any n _ _ _ w ge gb gv cb _ R vf vm wk (by rw [memb_len]; exact hb) (by rw [memb_len]; exact hi) h1
  rw [of_members b1.1, of_members b1.2] at this
  exact this
theorem set_eg {f : Tm → Bool} (hck : chkN f n = 0) (hb : n.bases.length ≤ 1000000) (hi : n.inputs.length ≤ 1000000) (b1 : numsB st n.bases.length = true ∧ numsB ip n.inputs.length = true) {vs vi : Value} (h : Eg n B ge gb gv st0 ip0 wk w)
    (hs : RowE KN (· < w.heap.size) w st vs) (hip : RowE KN (· < w.heap.size) w ip vi) : Calls Try.prog 13 #[.pointer (some ⟨ge, 0, none⟩), vs, vi] w fun e w' =>
      e = .returned (.tuple #[.int .i64 (chN (valsN st0 ip0 n) (valsN st ip n) n.gates.length : Nat), .int .i64 0]) ∧ Eg n B ge gb gv st ip (wkN (valsN st0 ip0 n) (valsN st ip n) n n.gates.length : Nat) w' ∧ Lt (ex3 ge gb gv) w w' := by
  obtain ⟨⟨cb, R, vf, vm, h1⟩, h2⟩ := h
  refine (set_any n st0 ip0 st ip _ _ w ge gb gv cb _ R vf vm vs vi wk w.heap.size hck hb hi (memb_len _ _) (memb_len _ _) (Nat.le_refl _) hs hip b1 h1).mono ?_
  rintro e w' ⟨rfl, h3⟩
  obtain ⟨vf', vm', h4⟩ := h3.ex
  exact ⟨rfl, ⟨⟨cb, R, vf', vm', h4⟩, h2⟩, h3.lt⟩
theorem new_eg (h : Nh) (k : NetIn (· < w.heap.size) w n h) (hz : SzN n) (hck : chkN groundB n = 0) : Calls Try.prog 8 #[.agg (netC n h)] w fun e w' =>
      ∃ ge gb gv, e = .returned (.tuple #[.pointer (some ⟨ge, 0, none⟩), .int .i64 0]) ∧ Eg n w.heap.size ge gb gv [] [] 0 w' ∧ Below w.heap.size w w' := by
  refine (new_any n h w.heap.size w (Nat.le_refl _) k hz hck).mono ?_
  rintro e w' ⟨ge, gb, gv, cb, R, vf, vm, rfl, h1, h2, h3⟩
  exact ⟨ge, gb, gv, rfl, ⟨⟨cb, R, vf, vm, h1⟩, h2⟩, h3⟩
/-- A set engine touches its own blocks only. -/
theorem Eg.lt (h : Eg n B ge gb gv st ip wk w) {a b : World} (hB : B ≤ a.heap.size) (q : Lt (ex3 ge gb gv) a b) : Below B a b := by
  obtain ⟨_, h1, h2, h3⟩ := h
  exact q.toBelow hB fun i e => by rcases e with rfl | rfl | rfl <;> assumption
end
end NetEg
end Go.Proofs.Ytgbbpliihglijaa
/- law24's alive: the examples hold. No conditions. Made by gnDa.py. -/
namespace Go.Proofs.Ytgbbpliihglijaa
open Go Go.RowKit
namespace NetDa
open Kit TermM TermI TermH NetM NetN NetK NetA NetC NetI NetMk NetNu NetOk NetEv NetBo NetMb NetS NetDn NetDp NetEm NetLt NetDx NetDw NetDs NetDt NetDe NetEg NetSa
theorem bools_eq (S : List Bool) (w : World) (v v' : Value) (ha : RowE KB (· < w.heap.size) w S v) (hl : RowE KB (· < w.heap.size) w S v') :
    Calls Try.prog 14 #[v, v'] w fun e w' => e = .returned (.bool true) ∧ Below w.heap.size w w' :=
  (NetBz.bools_any S S _ _ w v v' ha hl (fun _ h => h) (fun _ h => h)).mono fun _ _ h => ⟨by rw [h.1, decide_eq_true rfl], h.2⟩
theorem ints_eq (S : List Int) (w : World) (v v' : Value) (ha : RowE KN (· < w.heap.size) w S v) (hl : RowE KN (· < w.heap.size) w S v') :
    Calls Try.prog 15 #[v, v'] w fun e w' => e = .returned (.bool true) ∧ Below w.heap.size w w' :=
  (NetZ.ints_any S S _ _ w v v' ha hl (fun _ h => h) (fun _ h => h)).mono fun _ _ h => ⟨by rw [h.1, decide_eq_true rfl], h.2⟩
theorem lit_n (w : World) {g : Nat} (hg : w.heap.size = g) (L : List Int) (cs : Array Value) (hc : cs.toList = L.flatMap KN.cells) (hm : L.length ≤ maxLen) (hi : ∀ x ∈ L, I64 x) : RowE KN (· < (w.alloc (.cells cs 3)).heap.size) (w.alloc (.cells cs 3)) L (.slice (some ⟨g, 0, none⟩) L.length L.length) :=
  hg ▸ row_has hc (Has.new _ _ _) (by simp) hm hi
theorem lit_b (w : World) {g : Nat} (hg : w.heap.size = g) (L : List Bool) (cs : Array Value) (hc : cs.toList = L.flatMap KB.cells) (hm : L.length ≤ maxLen) : RowE KB (· < (w.alloc (.cells cs 4)).heap.size) (w.alloc (.cells cs 4)) L (.slice (some ⟨g, 0, none⟩) L.length L.length) :=
  hg ▸ row_has hc (Has.new _ _ _) (by simp) hm (fun _ _ => trivial)
theorem i64_0 : I64 0 := by unfold I64; omega
theorem v0 : valsN [] [] smpN = [false, true, false] := by kernel_rfl
theorem v1 : valsN [0] [] smpN = [true, false, false] := by kernel_rfl
theorem v2 : valsN [0] [0] smpN = [true, false, false] := by kernel_rfl
theorem c1 : chN (valsN [] [] smpN) (valsN [0] [] smpN) smpN.gates.length = 2 := by kernel_rfl
theorem k1 : wkN (valsN [] [] smpN) (valsN [0] [] smpN) smpN smpN.gates.length = 2 := by kernel_rfl
theorem c2 : chN (valsN [0] [] smpN) (valsN [0] [0] smpN) smpN.gates.length = 0 := by kernel_rfl
theorem k2 : wkN (valsN [0] [] smpN) (valsN [0] [0] smpN) smpN smpN.gates.length = 0 := by kernel_rfl
theorem b1 : numsB [0] smpN.bases.length = true ∧ numsB [] smpN.inputs.length = true := ⟨by kernel_rfl, by kernel_rfl⟩
theorem b2 : numsB [0] smpN.bases.length = true ∧ numsB [0] smpN.inputs.length = true := ⟨by kernel_rfl, by kernel_rfl⟩
theorem g0 : valB (valsN [0] [0] smpN) 0 = true := by rw [v2]; decide
theorem g1 : valB (valsN [0] [0] smpN) 1 = false := by rw [v2]; decide
theorem g3 : valB (valsN [0] [0] smpN) 3 = false := by rw [v2]; decide
theorem s3 : smpN.gates.length ≤ 1000000 := by decide
theorem sb : smpN.bases.length ≤ 1000000 := by decide
theorem si : smpN.inputs.length ≤ 1000000 := by decide
section
variable {B ge gb gv : Nat} {wk : Int} {w : World}
theorem set1 (h : Eg smpN B ge gb gv [] [] wk w) : Calls Try.prog 13 #[.pointer (some ⟨ge, 0, none⟩), .slice (some ⟨w.heap.size, 0, none⟩) 1 1, .slice none 0 0] (w.alloc (.cells #[.int .i64 0] 3)) fun e w' => e = .returned (.tuple #[.int .i64 2, .int .i64 0]) ∧ Eg smpN B ge gb gv [0] [] 2 w' ∧ Lt (ex3 ge gb gv) w w' := by
  have := set_eg smp_ok sb si b1 (h.below (below_alloc _ _)) (lit_n w rfl [0] #[.int .i64 0] rfl (by decide) (fun x hx => by rw [List.mem_singleton.1 hx]; exact i64_0)) (RowE.nil _ _)
  rw [c1, k1] at this
  exact this.mono fun e w' h => ⟨h.1, h.2.1, (Lt.of (below_alloc _ _)).trans h.2.2⟩
theorem set2 (h : Eg smpN B ge gb gv [0] [] wk w) : Calls Try.prog 13 #[.pointer (some ⟨ge, 0, none⟩), .slice (some ⟨w.heap.size, 0, none⟩) 1 1, .slice (some ⟨w.heap.size + 1, 0, none⟩) 1 1] ((w.alloc (.cells #[.int .i64 0] 3)).alloc (.cells #[.int .i64 0] 3)) fun e w' => e = .returned (.tuple #[.int .i64 0, .int .i64 0]) ∧ Eg smpN B ge gb gv [0] [0] 0 w' ∧ Lt (ex3 ge gb gv) w w' := by
  have l0 := lit_n w rfl [0] #[.int .i64 0] rfl (by decide) (fun x hx => by rw [List.mem_singleton.1 hx]; exact i64_0)
  have l1 := lit_n (w.alloc (.cells #[.int .i64 0] 3)) (g := w.heap.size + 1) (by simp) [0] #[.int .i64 0] rfl (by decide) (fun x hx => by rw [List.mem_singleton.1 hx]; exact i64_0)
  have := set_eg smp_ok sb si b2 ((h.below (below_alloc _ _)).below (below_alloc _ (.cells #[.int .i64 0] 3))) ((l0.keep fun b o (hb : b < _) => (below_alloc _ _).cell (p := ⟨b, o, none⟩) hb).wide fun _ hb => Nat.lt_of_lt_of_le hb (below_alloc _ _).size) l1
  rw [c2, k2] at this
  exact this.mono fun e w' h => ⟨h.1, h.2.1, ((Lt.of (below_alloc _ _)).trans (Lt.of (below_alloc _ _))).trans h.2.2⟩
end
set_option maxRecDepth 100000 in
set_option maxHeartbeats 6400000 in
theorem alive_any : ∀ w, Calls Try.prog 7 #[] w fun e w' => e = .returned (.bool true) ∧ Below w.heap.size w w' := by
  intro w
  have S0 := Lib.hid (sample_any w)
  go_enter Try.func7, Try.ntmps7
  go_wp2_with fail
  refine S0.out.mono ?_
  rintro e w1 ⟨h, rfl, hn, b1⟩
  have N1 := Lib.hid (new_eg h (hn.wide fun _ hb => hb.2) smp_sz smp_ok)
  have D1 := Lib.hid b1
  clear hn b1 S0
  go_wp2_with fail
  refine N1.out.mono ?_
  rintro e w2 ⟨ge, gb, gv, rfl, hE, g2⟩
  have E2 := Lib.hid hE
  have D2 := Lib.hid (next0 D1.out g2)
  have W12 : Hid (w1.heap.size ≤ w2.heap.size) := Lib.hid g2.size
  clear hE g2 N1
  have V2 := Lib.hid (values_eg s3 E2.out)
  go_wp2_with fail
  refine V2.out.mono ?_
  rintro e w3 ⟨v3, rfl, hv3, g3⟩
  rw [v0] at hv3
  have E3 := Lib.hid (E2.out.below g3)
  have D3 := Lib.hid (next0 D2.out g3)
  have W13 : Hid (w1.heap.size ≤ w3.heap.size) := Lib.hid (by have := g3.size; have := W12.out; omega)
  have R3 := Lib.hid ((hv3.keep (w' := w3.alloc (.cells #[.bool false, .bool true, .bool false] 4)) fun b o hb => (below_alloc _ _).cell (p := ⟨b, o, none⟩) hb.2).wide (ok' := (· < (w3.alloc (.cells #[.bool false, .bool true, .bool false] 4)).heap.size)) fun _ hb => Nat.lt_of_lt_of_le hb.2 (below_alloc _ _).size)
  obtain ⟨p3, c3, rfl⟩ := hv3.form
  have C4 := Lib.hid (bools_eq [false, true, false] _ _ _ R3.out (lit_b w3 rfl [false, true, false] #[.bool false, .bool true, .bool false] rfl (by decide)))
  clear hv3 g3 V2 E2
  go_wp2_with fail
  refine C4.out.mono ?_
  rintro e w4 ⟨rfl, g4⟩
  have E4 := Lib.hid ((E3.out.below (below_alloc _ _)).below g4)
  have D4 := Lib.hid (next0 D3.out (next0 (below_alloc _ _) g4))
  have W14 : Hid (w1.heap.size ≤ w4.heap.size ∧ w.heap.size ≤ w1.heap.size) := Lib.hid ⟨by have := (next0 (below_alloc w3 _) g4).size; have := W13.out; omega, D1.out.size⟩
  clear g4 C4 R3 E3
  have C5 := Lib.hid (set1 E4.out)
  go_wp2_with fail
  refine C5.out.mono ?_
  rintro e w5 ⟨rfl, hE, hL⟩
  have E5 := Lib.hid hE
  have D5 := Lib.hid (D4.out.trans ((hE.lt W14.out.1 hL).mono W14.out.2))
  have S5 := Lib.hid hL.size
  clear hE hL C5
  have C6 := Lib.hid (work_eg E5.out)
  go_wp2_with fail
  refine C6.out.mono ?_
  rintro e w6 ⟨rfl, rfl⟩
  clear C6
  have C7 := Lib.hid (set2 E5.out)
  go_wp2_with fail
  refine C7.out.mono ?_
  rintro e w7 ⟨rfl, hE, hL⟩
  have E7 := Lib.hid hE
  have D7 := Lib.hid (D5.out.trans ((hE.lt (Nat.le_trans W14.out.1 S5.out) hL).mono W14.out.2))
  clear hE hL C7
  have C8 := Lib.hid (state_eg sb si b2 E7.out)
  go_wp2_with fail
  refine C8.out.mono ?_
  rintro e w8 ⟨u8, v8, rfl, hu, hv, g8⟩
  have E8 := Lib.hid (E7.out.below g8)
  have D8 := Lib.hid (next0 D7.out g8)
  have U8 := Lib.hid hu
  have V8 := Lib.hid hv
  obtain ⟨p8, d8, rfl⟩ := (hu w8 (Below.refl _ _)).form
  obtain ⟨q8, f8, rfl⟩ := (hv w8 (Below.refl _ _)).form
  clear hu hv g8 C8
  have C9 := Lib.hid (work_eg E8.out)
  go_wp2_with fail
  refine C9.out.mono ?_
  rintro e w9 ⟨rfl, rfl⟩
  clear C9
  have C9 := Lib.hid (ints_eq [0] _ _ _ (U8.out (w8.alloc (.cells #[.int .i64 0] 3)) (below_alloc _ _)) (lit_n w8 rfl [0] #[.int .i64 0] rfl (by decide) (fun x hx => by rw [List.mem_singleton.1 hx]; exact i64_0)))
  go_wp2_with fail
  refine C9.out.mono ?_
  rintro e w9 ⟨rfl, g9⟩
  have J9 : Hid (Below w8.heap.size w8 w9) := Lib.hid (next0 (below_alloc _ _) g9)
  have E9 := Lib.hid (E8.out.below J9.out)
  have D9 := Lib.hid (next0 D8.out J9.out)
  have V9 := Lib.hid (V8.out.step J9.out)
  clear g9 C9
  have C9 := Lib.hid (ints_eq [0] _ _ _ (V9.out (w9.alloc (.cells #[.int .i64 0] 3)) (below_alloc _ _)) (lit_n w9 rfl [0] #[.int .i64 0] rfl (by decide) (fun x hx => by rw [List.mem_singleton.1 hx]; exact i64_0)))
  go_wp2_with fail
  refine C9.out.mono ?_
  rintro e wa ⟨rfl, ga⟩
  have JA : Hid (Below w9.heap.size w9 wa) := Lib.hid (next0 (below_alloc _ _) ga)
  have EA := Lib.hid (E9.out.below JA.out)
  have DA := Lib.hid (next0 D9.out JA.out)
  clear ga C9
  have X0 := Lib.hid (value_eg 0 s3 EA.out)
  have X1 := Lib.hid (value_eg 1 s3 EA.out)
  have X3 := Lib.hid (value_eg 3 s3 EA.out)
  rw [g0] at X0
  rw [g1] at X1
  rw [g3] at X3
  go_wp2_with fail
  refine X0.out.mono ?_
  rintro e wb ⟨rfl, rfl⟩
  clear X0
  go_wp2_with fail
  refine X1.out.mono ?_
  rintro e wb ⟨rfl, rfl⟩
  clear X1
  go_wp2_with fail
  refine X3.out.mono ?_
  rintro e wb ⟨rfl, rfl⟩
  clear X3
  go_wp2_with fail
  go_ret
  exact ⟨rfl, DA.out⟩
end NetDa
end Go.Proofs.Ytgbbpliihglijaa
/- Bits: the numbers whose bits are set. Conditions: the number fits 64 bits. Made by gnBt.py. -/
namespace Go.Proofs.Ytgbbpliihglijaa
open Go Go.RowKit
namespace NetBt
open Kit LexM TermM TermI NetM NetN NetK NetA NetI NetMk NetBp
/-- A new row of numbers. -/
def NlE (L : List Int) (w : World) (e : Ending) (w' : World) : Prop := ∃ v, e = .returned v ∧ RowE KN (fun b => w.heap.size ≤ b ∧ b < w'.heap.size) w' L v ∧ Below w.heap.size w w'
theorem NlE.mk {L : List Int} {w w' : World} {v : Value} (h : RowE KN (fun b => w.heap.size ≤ b ∧ b < w'.heap.size) w' L v) (h2 : Below w.heap.size w w') : NlE L w (.returned v) w' := ⟨v, rfl, h, h2⟩
set_option maxRecDepth 100000 in
set_option maxHeartbeats 3200000 in
theorem bits_any (b m : Nat) (hb : b < 18446744073709551616) (w : World) :
    Calls Try.prog 27 #[.int .u64 b, .int .i64 m] w (NlE (bitsL b m) w) := by
  obtain ⟨i0, hi0, hi1, hi2, hi3⟩ := info_parts Try.infoN
  have NS := Lib.hid (nil_own w.heap.size w 3 1)
  have BT := Lib.hid (fun k => bit_test hb k)
  have BG : Hid (∀ k, k < 64 → (bitS b)[k]? = some (b.testBit k)) := Lib.hid (fun k hk => bits_get hk)
  have FIN : Hid (∀ k, k = min m 64 → bitsL b m = numsTo (bitS b) k) := Lib.hid (fun k e => by rw [e]; rfl)
  obtain ⟨bi, hbi⟩ : ∃ z : Int, z = (b : Int) := ⟨_, rfl⟩
  rw [← hbi]
  have HBI := Lib.hid hbi
  clear hbi hb
  go_enter Try.func27, Try.ntmps27
  go_wp2_with fail
  go_loopw [5, 6] (fun u3 i wr => ∃ (k : Nat) (F : List Int), k ≤ m ∧ k ≤ 64 ∧ i = .int .i64 k ∧ Hid (F = numsTo (bitS b) k) ∧ Hid (wr.ownsRow w.heap.size 3 1 u3 F.length (NetI.numV F)) ∧ Hid (∀ x ∈ F, I64 x) ∧ Hid (Below w.heap.size w wr)) (fun _ i _ => 64 - (intOf i).toNat)
  case atStart => exact ⟨0, [], Nat.zero_le _, Nat.zero_le _, rfl, Lib.hid rfl, NS, Lib.hid (fun x hx => by cases hx), Lib.hid (Below.refl _ _)⟩
  case round =>
    obtain ⟨k, F, hkm, hk64, rfl, hF, hO, hI, hD⟩ := hrel
    obtain ⟨va, vc, rfl⟩ := form1 hO.out
    have hFl : F.length ≤ k := by have := nums_len (bitS b) k; rw [← hF.out] at this; exact this
    by_cases hlt : k < m
    · have j1 : (k : Int) < m := by omega
      have j1n : decide (k < m) = true := decide_eq_true hlt
      by_cases h64 : k < 64
      · have j2 : (k : Int) < 64 := by omega
        have j0 : (0 : Int) ≤ (k : Int) := by omega
        have hz3 := hD.out.size
        have BTk := BT.out k
        rw [← HBI.out] at BTk
        obtain ⟨tb, htb⟩ : ∃ tb, b.testBit k = tb := ⟨_, rfl⟩
        have HTB := Lib.hid htb
        rw [htb] at BTk
        clear htb
        cases tb
        · have F2 : Hid (F = numsTo (bitS b) (k + 1)) := Lib.hid (by rw [nums_no (by rw [BG.out k h64, HTB.out]; decide)]; exact hF.out)
          go_wp2_with fail
          go_roundw
          case rel => first | exact ⟨k + 1, F, by omega, by omega, by go_num, F2, hO, hI, hD⟩ | ((repeat (apply Exists.intro)); refine ⟨?_, rfl⟩; exact ⟨k + 1, F, by omega, by omega, by go_num, F2, hO, hI, hD⟩)
          case measure => simp [intOf]; omega
        · have F2 : Hid (F ++ [(k : Int)] = numsTo (bitS b) (k + 1)) := Lib.hid (by rw [nums_yes (by rw [BG.out k h64, HTB.out]), ← hF.out])
          have I2 : Hid (∀ y ∈ F ++ [(k : Int)], I64 y) := Lib.hid (fun y hy => by
            rcases List.mem_append.1 hy with hy | hy
            · exact hI.out y hy
            · rw [List.mem_singleton.1 hy]
              unfold I64
              omega)
          have AA1 : F.length + 1 ≤ maxLen := by unfold maxLen; omega
          have AA2 : (F.length + 1) * 8 ≤ 140737488355328 := by omega
          have AA3 : w.heap.size ≤ (wr.alloc (.cells #[.int .i64 (k : Int)] 3)).heap.size := by simp <;> omega
          go_wp2_with (at_builtin; go_must (refine wpList_append_lies _ rfl _ _ 25 rfl w.heap.size 3 i0 (.int .i64 0) 1 8 Try.underlying25 hi0 hi1 hi2 hi3 rfl (by decide) (.slice va F.length vc) F.length (NetI.numV F) rfl (hO.out.alloc _) ⟨wr.heap.size, 0, none⟩ 1 1 [.int .i64 k] rfl rfl (World.news_of_block (heap_alloc_new wr _)) (one_int k) (by decide) AA1 AA2 AA3 (wr.heap.size + 1) (by simp) ?_; intro g6 c6 w6 hown6 hgrow6 hat6 hlt6; have O6 : Hid (w6.ownsRow w.heap.size 3 1 (.slice (some ⟨g6, 0, none⟩) (F.length + 1) c6) (F ++ [(k : Int)]).length (NetI.numV (F ++ [(k : Int)]))) := Lib.hid (by rw [List.length_append, NetI.numv_app]; exact hown6); have D6 := Lib.hid ((hD.out.alloc hz3 (.cells #[.int .i64 k] 3)).grown hgrow6 (by simp <;> omega) (fun j hj => (hO.out.lt j hj).1)); clear hown6 hgrow6 hat6 hlt6))
          go_roundw
          case rel => first | exact ⟨k + 1, F ++ [(k : Int)], by omega, by omega, by go_num, F2, O6, I2, D6⟩ | ((repeat (apply Exists.intro)); refine ⟨?_, rfl⟩; exact ⟨k + 1, F ++ [(k : Int)], by omega, by omega, by go_num, F2, O6, I2, D6⟩)
          case measure => simp [intOf]; omega
      · have j2 : ¬ (k : Int) < 64 := by omega
        have R7 := Lib.hid (own_row hO.out hI.out)
        have FE : Hid (bitsL b m = F) := Lib.hid (by rw [FIN.out k (by omega), hF.out])
        go_wp2_with fail
        go_ret
        exact NlE.mk (by rw [FE.out]; exact R7.out) hD.out
    · have j1 : ¬ (k : Int) < m := by omega
      have j1n : decide (k < m) = false := decide_eq_false hlt
      have R7 := Lib.hid (own_row hO.out hI.out)
      have FE : Hid (bitsL b m = F) := Lib.hid (by rw [FIN.out k (by omega), hF.out])
      go_wp2_with fail
      go_ret
      exact NlE.mk (by rw [FE.out]; exact R7.out) hD.out
end NetBt
end Go.Proofs.Ytgbbpliihglijaa
/- law21's points: a state and a set of inputs as bits. No conditions. Made by gnE2.py. -/
namespace Go.Proofs.Ytgbbpliihglijaa
open Go Go.RowKit Go.ChangeShapes Go.Deep
namespace NetPs
open Kit LexM TermM TermI NetM NetN NetK NetO
section
variable {H : Type} {enc : TypeId × Value → H} {W : World} {base : Nat} {sp : Nat → Bool} {held : Bool}
theorem cellsPs : Try.prog.cellsOf 31 = 2 := by kernel_rfl
theorem cellsU : Try.prog.cellsOf 29 = 1 := by kernel_rfl
theorem underPs : ∃ f0 f1 : Field, Try.prog.underlying 31 = some (.struct #[f0, f1]) ∧ f0.offset = 0 ∧ f1.offset = 1 ∧ f0.type = 29 ∧ f1.type = 29 := ⟨_, _, Try.underlying31, rfl, rfl, rfl, rfl⟩
theorem u64_in {n : Nat} {cs : List Value} {x : DataW H × List MemPlace} (h : DataW.trod enc Try.prog W base sp held n 29 cs = some x) : ∃ y : Nat, cs = [.int .u64 (y : Int)] ∧ y < 18446744073709551616 := by
  obtain ⟨a, e0, _, wa⟩ := DataW.trod_int Try.underlying29 h
  obtain ⟨h1, h2⟩ := bounds_u64 wa
  exact ⟨a.toNat, by rw [e0, Int.toNat_of_nonneg h1], by omega⟩
set_option maxRecDepth 100000 in
theorem spoint_in {n : Nat} {cs : List Value} {x : DataW H × List MemPlace} (h : DataW.trod enc Try.prog W base sp held n 31 cs = some x) : ∃ a b : Nat, cs = [.int .u64 (a : Int), .int .u64 (b : Int)] ∧ a < 18446744073709551616 ∧ b < 18446744073709551616 := by
  obtain ⟨f0, f1, hu, o0, o1, y0, y1⟩ := underPs
  obtain ⟨xs, k, hk, hxy, hcl, hxl, hf⟩ := DataW.trod_struct hu h
  rw [cellsPs] at hcl
  match cs, hcl with
  | [v0, v1], _ =>
    match xs, hxl with
    | [x0, x1], _ =>
      have g0 := hf 0 f0 rfl
      have g1 := hf 1 f1 rfl
      simp [o0, o1, y0, y1, cellsU] at g0 g1
      obtain ⟨a, q0, i0⟩ := u64_in g0
      obtain ⟨b, q1, i1⟩ := u64_in g1
      injection q0 with q0 _
      injection q1 with q1 _
      subst q0 q1
      exact ⟨a, b, rfl, i0, i1⟩
end
set_option maxRecDepth 100000 in
theorem open_spoint {H : Type} {enc : TypeId × Value → H} {W : World} {b0 : Nat} {base : Nat} {sp : Nat → Bool} {held : Bool} {v : Value} {d : DataW H} {p : List MemPlace}
    (hv : Value.okWide Try.prog W .any b0 31 v) (h : DataW.Trod enc Try.prog W base sp held 31 v d p) : ∃ a b : Nat, v = .agg #[.int .u64 (a : Int), .int .u64 (b : Int)] ∧ a < 18446744073709551616 ∧ b < 18446744073709551616 := by
  obtain ⟨f0, f1, hu, _⟩ := underPs
  obtain ⟨cs, rfl, hsz⟩ := WideShapes.okWide_struct hu hv
  obtain ⟨fuel, hf⟩ := h
  obtain ⟨a, b, e, k1, k2⟩ := spoint_in hf
  refine ⟨a, b, ?_, k1, k2⟩
  have e : cs.toList = (#[.int .u64 (a : Int), .int .u64 (b : Int)] : Array Value).toList := by simpa [Value.cells] using e
  rw [Array.ext' e]
end NetPs
end Go.Proofs.Ytgbbpliihglijaa
/- law24's set: an engine is set to bits. Conditions: a live engine of a valid network. Made by gnLx.py. -/
namespace Go.Proofs.Ytgbbpliihglijaa
open Go Go.RowKit
namespace NetLx
open Kit TermM TermI TermH NetM NetN NetK NetA NetC NetI NetMk NetNu NetOk NetEv NetBo NetMb NetVv NetS NetDn NetDp NetEm NetLt NetDx NetDw NetDs NetDt NetDe NetEg NetBp NetBt
set_option maxRecDepth 100000 in
set_option maxHeartbeats 12800000 in
theorem set_law {f : Tm → Bool} (n : Nt) (h : Nh) (a b B ge gb gv : Nat) (st0 ip0 : List Int) (wk : Int) (w : World) (hck : chkN f n = 0) (hbm : n.bases.length ≤ 1000000) (him : n.inputs.length ≤ 1000000) (ha : a < 18446744073709551616) (hb : b < 18446744073709551616) (E : Eg n B ge gb gv st0 ip0 wk w) :
    Calls Try.prog 9 #[.pointer (some ⟨ge, 0, none⟩), .agg #[.slice h.gp n.gates.length h.gc, .slice h.rp n.roles.length h.rc, .slice h.bp n.bases.length h.bc, .slice h.ip n.inputs.length h.ic, .slice h.ap n.initial.length h.ac, .slice h.np n.next.length h.nc, .slice h.lp n.legal.length h.lc, .slice h.op n.goals.length h.oc, .slice h.sp n.sees.length h.sc, .int .i64 n.last, .bool n.hid], .agg #[.int .u64 (a : Int), .int .u64 (b : Int)]] w fun e w' =>
      e = .returned (.tuple #[.int .i64 (chN (valsN st0 ip0 n) (valsN (bitsL a n.bases.length) (bitsL b n.inputs.length) n) n.gates.length : Nat), .int .i64 0]) ∧ Eg n B ge gb gv (bitsL a n.bases.length) (bitsL b n.inputs.length) (wkN (valsN st0 ip0 n) (valsN (bitsL a n.bases.length) (bitsL b n.inputs.length) n) n n.gates.length : Nat) w' ∧ Lt (ex3 ge gb gv) w w' := by
  obtain ⟨W1, hW1⟩ : ∃ z, z = w.alloc (.cells #[.slice h.gp n.gates.length h.gc, .slice h.rp n.roles.length h.rc, .slice h.bp n.bases.length h.bc, .slice h.ip n.inputs.length h.ic, .slice h.ap n.initial.length h.ac, .slice h.np n.next.length h.nc, .slice h.lp n.legal.length h.lc, .slice h.op n.goals.length h.oc, .slice h.sp n.sees.length h.sc, .int .i64 n.last, .bool n.hid] 28) := ⟨_, rfl⟩
  obtain ⟨Wb, hWb⟩ : ∃ z, z = W1.alloc (.cells #[.int .u64 (a : Int), .int .u64 (b : Int)] 31) := ⟨_, rfl⟩
  have K1 : Hid (Below w.heap.size w W1) := Lib.hid (by rw [hW1]; exact below_alloc _ _)
  have K2 : Hid (Below W1.heap.size W1 Wb) := Lib.hid (by rw [hWb]; exact below_alloc _ _)
  have hz1 : W1.heap.size = w.heap.size + 1 := by rw [hW1]; simp
  have BB : Hid (Below w.heap.size w Wb) := Lib.hid (next0 K1.out K2.out)
  have H1 : Hid (Has Wb w.heap.size (netC n h)) := Lib.hid (by rw [hWb, hW1]; exact (Has.new _ _ _).alloc _)
  have H2 : Hid (Has Wb (w.heap.size + 1) #[.int .u64 (a : Int), .int .u64 (b : Int)]) := Lib.hid (by rw [hWb, ← hz1]; exact Has.new _ _ _)
  have hzB := BB.out.size
  obtain ⟨ch, hch⟩ : ∃ ch, chN (valsN st0 ip0 n) (valsN (bitsL a n.bases.length) (bitsL b n.inputs.length) n) n.gates.length = ch := ⟨_, rfl⟩
  have HC : Hid (∀ w', Below Wb.heap.size Wb w' → w'.cell? ⟨w.heap.size, 2, none⟩ = some (.slice h.bp n.bases.length h.bc) ∧ w'.cell? ⟨w.heap.size, 3, none⟩ = some (.slice h.ip n.inputs.length h.ic) ∧ w'.cell? ⟨w.heap.size + 1, 0, none⟩ = some (.int .u64 (a : Int)) ∧ w'.cell? ⟨w.heap.size + 1, 1, none⟩ = some (.int .u64 (b : Int))) := Lib.hid (fun w' q => ⟨(hasN (H1.out.step0 q)).2.2.1, (hasN (H1.out.step0 q)).2.2.2.1, (H2.out.step0 q).cell 0, (H2.out.step0 q).cell 1⟩)
  have hzb : Wb.heap.size = w.heap.size + 2 := by rw [hWb]; simp [hz1]
  obtain ⟨l1, l2, l3⟩ : ge < w.heap.size ∧ gb < w.heap.size ∧ gv < w.heap.size := by
    obtain ⟨⟨_, _, _, _, h1⟩, _⟩ := E
    exact ⟨h1.lte, h1.ltb, h1.ltv⟩
  have SE := Lib.hid (fun w' (q : Below Wb.heap.size Wb w') vs vi (hs : RowE KN (· < w'.heap.size) w' (bitsL a n.bases.length) vs) (hi : RowE KN (· < w'.heap.size) w' (bitsL b n.inputs.length) vi) => show Calls Try.prog 13 #[.pointer (some ⟨ge, 0, none⟩), vs, vi] w' fun e w'' => e = .returned (.tuple #[.int .i64 (ch : Nat), .int .i64 0]) ∧ Hid (Eg n B ge gb gv (bitsL a n.bases.length) (bitsL b n.inputs.length) (wkN (valsN st0 ip0 n) (valsN (bitsL a n.bases.length) (bitsL b n.inputs.length) n) n n.gates.length : Nat) w'') ∧ Hid (Lt (ex3 ge gb gv) w w'') ∧ w''.cell? ⟨w.heap.size, 2, none⟩ = some (.slice h.bp n.bases.length h.bc) ∧ w''.cell? ⟨w.heap.size, 3, none⟩ = some (.slice h.ip n.inputs.length h.ic) ∧ w''.cell? ⟨w.heap.size + 1, 0, none⟩ = some (.int .u64 (a : Int)) ∧ w''.cell? ⟨w.heap.size + 1, 1, none⟩ = some (.int .u64 (b : Int)) from by
    have BQ := BB.out.trans (q.mono hzB)
    refine (set_eg hck hbm him ⟨bits_ok a n.bases.length, bits_ok b n.inputs.length⟩ (E.below BQ) hs hi).mono ?_
    rintro e w'' ⟨rfl, h1, h2⟩
    obtain ⟨y1, y2, y3, y4⟩ := HC.out w' q
    have hzw := q.size
    have nn : ∀ t : Nat, w.heap.size ≤ t → ¬ ex3 ge gb gv t := fun t ht e => by rcases e with e | e | e <;> omega
    exact ⟨by rw [hch], Lib.hid h1, Lib.hid ((Lt.of BQ).trans h2), (h2.cell (by omega) (nn _ (by omega))).trans y1, (h2.cell (by omega) (nn _ (by omega))).trans y2, (h2.cell (by omega) (nn _ (by omega))).trans y3, (h2.cell (by omega) (nn _ (by omega))).trans y4⟩)
  have HCH := Lib.hid hch
  have M1 := Lib.hid (fun w' => bits_any a n.bases.length ha w')
  have M2 := Lib.hid (fun w' => bits_any b n.inputs.length hb w')
  have hq0 : Hid (Below Wb.heap.size Wb Wb.drew) := Lib.hid (Below.refl _ _).drew
  have HZ1 := Lib.hid hz1
  clear E hck hbm him ha hb hch K1 K2 hz1 H1 H2 hzb l1 l2 l3
  go_enter Try.func9, Try.ntmps9
  go_upto_region 1 with fail
  have e1 := HZ1.out
  rw [← hW1, ← hWb]
  clear hW1 hWb e1
  go_upto_region 2 with fail
  obtain ⟨x1, x2, x3, x4⟩ := HC.out _ hq0.out
  go_region_held3 (fun w' => w'.cell? ⟨w.heap.size, 2, none⟩ = some (.slice h.bp n.bases.length h.bc) ∧ w'.cell? ⟨w.heap.size, 3, none⟩ = some (.slice h.ip n.inputs.length h.ic) ∧ w'.cell? ⟨w.heap.size + 1, 0, none⟩ = some (.int .u64 (a : Int)) ∧ w'.cell? ⟨w.heap.size + 1, 1, none⟩ = some (.int .u64 (b : Int)))
    (first | (with_reducible assumption) | (with_reducible exact ⟨‹_›, ‹_›, ‹_›, ‹_›⟩) | (with_reducible refine HC.out _ ?_; repeat (first | (with_reducible exact Hid.out (by assumption)) | (with_reducible exact Below.refl _ _) | (with_reducible refine Below.drew ?_))))
    (first
      | (go_at_call 27; (try go_split_ands); (with_reducible refine (M1.out _).mono ?_); rintro e wa ⟨ua, rfl, ra, qa⟩; have RA := Lib.hid (StN.of ra); obtain ⟨pa, ca, rfl⟩ := ra.form; have QA := Lib.hid qa; (have QG : Hid (Below Wb.heap.size Wb wa) := Lib.hid (by (refine next0 ?_ qa; repeat (first | (with_reducible exact Hid.out (by assumption)) | (with_reducible exact Below.refl _ _) | (with_reducible refine Below.drew ?_))))); clear ra qa; obtain ⟨x1, x2, x3, x4⟩ := HC.out _ QG.out)
      | (go_at_call 27; (try go_split_ands); (with_reducible refine (M2.out _).mono ?_); rintro e wb ⟨ub, rfl, rb, qb⟩; have RB := Lib.hid (StN.of rb); obtain ⟨pb, cb, rfl⟩ := rb.form; have QB := Lib.hid qb; (have QH : Hid (Below Wb.heap.size Wb wb) := Lib.hid (by (refine next0 ?_ qb; repeat (first | (with_reducible exact Hid.out (by assumption)) | (with_reducible exact Below.refl _ _) | (with_reducible refine Below.drew ?_))))); clear rb qb; obtain ⟨x1, x2, x3, x4⟩ := HC.out _ QH.out)
      | (go_at_call 13; (try go_split_ands); refine (SE.out _ (by repeat (first | (with_reducible exact Hid.out (by assumption)) | (with_reducible exact Below.refl _ _) | (with_reducible refine Below.drew ?_))) _ _ (RA.out _ (by (repeat (with_reducible refine Below.drew ?_)); first | (with_reducible exact Below.refl _ _) | (first | (exact QB.out) | (refine undrew ?_; (first | (exact QB.out) | (refine undrew ?_; (first | (exact QB.out) | (refine undrew ?_; (first | (exact QB.out) | (refine undrew ?_; (first | (exact QB.out) | (refine undrew ?_; (first | (exact QB.out) | (refine undrew ?_; (first | (exact QB.out) | (refine undrew ?_; (first | (exact QB.out) | (refine undrew ?_; (first | (exact QB.out) | (refine undrew ?_; (first | (exact QB.out) | (refine undrew ?_; (first | (exact QB.out) | (refine undrew ?_; (first | (exact QB.out) | (refine undrew ?_; (first | (exact QB.out) | (refine undrew ?_; (first | (exact QB.out) | (refine undrew ?_; (first | (exact QB.out)))))))))))))))))))))))))))))))) (RB.out _ (by (repeat (with_reducible refine Below.drew ?_)); first | (with_reducible exact Below.refl _ _) | (first | (exact QA.out) | (refine undrew ?_; (first | (exact QA.out) | (refine undrew ?_; (first | (exact QA.out) | (refine undrew ?_; (first | (exact QA.out) | (refine undrew ?_; (first | (exact QA.out) | (refine undrew ?_; (first | (exact QA.out) | (refine undrew ?_; (first | (exact QA.out) | (refine undrew ?_; (first | (exact QA.out) | (refine undrew ?_; (first | (exact QA.out) | (refine undrew ?_; (first | (exact QA.out) | (refine undrew ?_; (first | (exact QA.out) | (refine undrew ?_; (first | (exact QA.out) | (refine undrew ?_; (first | (exact QA.out) | (refine undrew ?_; (first | (exact QA.out) | (refine undrew ?_; (first | (exact QA.out))))))))))))))))))))))))))))))))).mono ?_; rintro e wv ⟨rfl, EV, LV, x1, x2, x3, x4⟩))
  all_goals
    go_wp2_with fail
    refine bodyPost_ret (v := .tuple #[.int .i64 (ch : Nat), .int .i64 0]) (by simp [results, Try.results9, go_sem]) rfl ?_
    exact ⟨by rw [HCH.out], EV.out, LV.out⟩
end NetLx
end Go.Proofs.Ytgbbpliihglijaa
/- delta's Set with bases that are no state: ErrState, nothing changes; plain facts on what an update changes and evaluates. Conditions: a live engine. Made by gnSb.py. -/
namespace Go.Proofs.Ytgbbpliihglijaa
open Go Go.RowKit
namespace NetSb
open Kit TermM TermI TermH NetM NetN NetK NetA NetC NetI NetMk NetNu NetOk NetEv NetBo NetMb NetVv NetS NetDn NetDp NetEm NetLt NetDx NetDw NetDs NetDt NetDe NetEg
theorem cntp_zero {p : Nat → Bool} (h : ∀ j, p j = false) (i : Nat) : cntP p i = 0 := by
  unfold cntP
  rw [List.filter_eq_nil_iff.2 fun a _ => by rw [h a]; decide]
  rfl
theorem dif_same (A : List Bool) (x : Int) : dif A A x = false := by
  unfold dif
  cases vAt A x <;> rfl
theorem ch_same (A : List Bool) (i : Nat) : chN A A i = 0 := cntp_zero (fun j => dif_same A j) i
theorem rds_same (A : List Bool) (g : Gt) : rdsB A A g = false := by
  unfold rdsB
  rw [List.any_eq_false]
  intro x _
  rw [dif_same]
  decide
theorem wk_same (A : List Bool) (n : Nt) (i : Nat) : wkN A A n i = 0 := cntp_zero (fun j => by
  unfold rdAt
  split
  · exact rds_same A _
  · rfl) i
theorem dif_comm (A B : List Bool) (x : Int) : dif A B x = dif B A x := by
  unfold dif
  cases vAt A x <;> cases vAt B x <;> rfl
theorem ch_comm (A B : List Bool) (i : Nat) : chN A B i = chN B A i := by
  unfold chN
  congr 1
  funext j
  exact dif_comm A B j
theorem rds_comm (A B : List Bool) (g : Gt) : rdsB A B g = rdsB B A g := by
  unfold rdsB
  congr 1
  funext x
  exact dif_comm A B x
theorem wk_comm (A B : List Bool) (n : Nt) (i : Nat) : wkN A B n i = wkN B A n i := by
  unfold wkN
  congr 1
  funext j
  unfold rdAt
  split
  · exact rds_comm A B _
  · rfl
set_option maxRecDepth 100000 in
set_option maxHeartbeats 3200000 in
theorem set_bad {n : Nt} {B ge gb gv : Nat} {st st0 ip0 : List Int} {wk : Int} {w : World} {vs : Value} {p' : Option Addr} {m' c' : Nat} (h : Eg n B ge gb gv st0 ip0 wk w) (hb1 : numsB st n.bases.length = false) (hs : RowE KN (· < w.heap.size) w st vs) :
    Calls Try.prog 13 #[.pointer (some ⟨ge, 0, none⟩), vs, .slice p' m' c'] w fun e w' => e = .returned (.tuple #[.int .i64 0, .int .i64 14]) ∧ Below w.heap.size w w' := by
  obtain ⟨⟨cb, R, vf, vm, EU⟩, _⟩ := h
  obtain ⟨psl, csl, rfl⟩ := hs.form
  obtain ⟨pf, cf, rfl⟩ := EU.rf.form
  obtain ⟨pm, cm, rfl⟩ := EU.rm.form
  have VS0 := ascb_any st n.bases.length w.heap.size w _ (Nat.le_refl _) hs
  rw [hb1] at VS0
  have VS := Lib.hid VS0
  have RT := Lib.hid (returned_live ge w EU.eng.self)
  have x3 := EU.f3
  have x4 := EU.f4
  rw [memb_len] at x3 x4
  clear hs EU VS0 hb1
  go_enter Try.func13, Try.ntmps13
  go_wp2_with fail
  refine RT.out.mono ?_
  rintro e w2 ⟨rfl, rfl⟩
  go_wp2_with fail
  refine VS.out.mono ?_
  rintro e w3 ⟨rfl, g3⟩
  have D3 := Lib.hid g3
  clear g3 x3 x4
  go_wp2_with fail
  refine bodyPost_ret (v := .tuple #[.int .i64 0, .int .i64 14]) (by simp [results, Try.results13, go_sem]) rfl ?_
  exact ⟨rfl, D3.out⟩
end NetSb
end Go.Proofs.Ytgbbpliihglijaa
/- delta's State whose answers lie in new memory; rows that a set engine leaves as they are; what Set answers. Conditions: a live engine of a valid network. Made by gnDz.py. -/
namespace Go.Proofs.Ytgbbpliihglijaa
open Go Go.RowKit
namespace NetDz
open Kit TermM TermI TermH NetM NetN NetK NetA NetC NetI NetMk NetNu NetOk NetEv NetBo NetMb NetVv NetS NetDn NetDp NetEm NetLt NetDx NetDw NetDs NetDt NetDe NetEg NetSb
/-- A row of numbers in blocks from s on, in every later world. -/
def StM (s : Nat) (L : List Int) (w : World) (v : Value) : Prop := ∀ z, Below w.heap.size w z → RowE KN (fun b => s ≤ b ∧ b < w.heap.size) z L v
theorem StM.fresh {w0 wp wa : World} {L : List Int} {v : Value} (q : Below w0.heap.size w0 wp) (h : RowE KN (fun b => wp.heap.size ≤ b ∧ b < wa.heap.size) wa L v) : StM w0.heap.size L wa v := fun _ g => (h.keep fun b o hb => g.cell (p := ⟨b, o, none⟩) hb.2).wide fun _ hb => ⟨Nat.le_trans q.size hb.1, hb.2⟩
theorem StM.step {s : Nat} {L : List Int} {w w' : World} {v : Value} (h : StM s L w v) (q : Below w.heap.size w w') : StM s L w' v := fun z k => (h z (q.trans (k.mono q.size))).wide fun _ hb => ⟨hb.1, Nat.lt_of_lt_of_le hb.2 q.size⟩
theorem StM.form {s : Nat} {L : List Int} {w : World} {v : Value} (h : StM s L w v) : ∃ p c, v = .slice p L.length c := (h w (Below.refl _ _)).form
/-- State's answer. -/
def StaF (S T : List Int) (w : World) (e : Ending) (w' : World) : Prop := ∃ u v, e = .returned (.tuple #[u, v]) ∧ StM w.heap.size S w' u ∧ StM w.heap.size T w' v ∧ Below w.heap.size w w'
set_option maxRecDepth 100000 in
set_option maxHeartbeats 6400000 in
theorem state_low (n : Nt) (A F M : List Bool) (w : World) (ge gb gv cb cv : Nat) (R : List Value) (vf vm : Value) (wk : Int) (hF : F.length ≤ 1000000) (hM : M.length ≤ 1000000)
    (EU : EngU n ge gb gv cb cv R A F M vf vm wk w) :
    Calls Try.prog 12 #[.pointer (some ⟨ge, 0, none⟩)] w (StaF (numsOf F) (numsOf M) w) := by
  obtain ⟨pf, cf, rfl⟩ := EU.rf.form
  obtain ⟨pm, cm, rfl⟩ := EU.rm.form
  have RT := Lib.hid (returned_live ge w EU.eng.self)
  have CE := Lib.hid (fun w' (q : Below w.heap.size w w') => show w'.cell? ⟨ge, 3, none⟩ = some (.slice pf F.length cf) ∧ w'.cell? ⟨ge, 4, none⟩ = some (.slice pm M.length cm) from ⟨(EngU.below EU q).f3, (EngU.below EU q).f4⟩)
  have N1 := Lib.hid (fun w' (q : Below w.heap.size w w') => numbers_any F _ w' _ (EngU.below EU q).rf (fun _ h => h.1) hF)
  have N2 := Lib.hid (fun w' (q : Below w.heap.size w w') => numbers_any M _ w' _ (EngU.below EU q).rm (fun _ h => h.1) hM)
  clear EU
  go_enter Try.func12, Try.ntmps12
  go_wp2_with fail
  refine RT.out.mono ?_
  rintro e w2 ⟨rfl, rfl⟩
  obtain ⟨x3, x4⟩ := CE.out w (Below.refl _ _)
  go_upto_region 3 with fail
  clear x3 x4
  go_cut [2, 3] (fun s t wx => Hid (StM w.heap.size (numsOf F) wx s) ∧ Hid (StM w.heap.size (numsOf M) wx t) ∧ Hid (Below w.heap.size w wx))
  case first =>
    have hq0 : Hid (Below w.heap.size w w.drew) := Lib.hid (Below.refl _ _).drew
    obtain ⟨x3, x4⟩ := CE.out _ hq0.out
    go_region_held3 (fun w' => w'.cell? ⟨ge, 3, none⟩ = some (.slice pf F.length cf) ∧ w'.cell? ⟨ge, 4, none⟩ = some (.slice pm M.length cm))
      (first | (with_reducible assumption) | (with_reducible exact ⟨‹_›, ‹_›⟩) | (with_reducible refine CE.out _ ?_; repeat (first | (with_reducible exact Hid.out (by assumption)) | (with_reducible exact Below.refl _ _) | (with_reducible refine Below.drew ?_))))
      (first
        | (go_at_call 29; (try go_split_ands); (with_reducible refine (N1.out _ (by repeat (first | (with_reducible exact Hid.out (by assumption)) | (with_reducible exact Below.refl _ _) | (with_reducible refine Below.drew ?_)))).mono ?_); rintro e wa ⟨ua, rfl, ra, qa⟩; have RA := Lib.hid (StM.fresh (w0 := w) (by repeat (first | (with_reducible exact Hid.out (by assumption)) | (with_reducible exact Below.refl _ _) | (with_reducible refine Below.drew ?_))) ra); have QA := Lib.hid qa; (have QG : Hid (Below w.heap.size w wa) := Lib.hid (by (refine next0 ?_ qa; repeat (first | (with_reducible exact Hid.out (by assumption)) | (with_reducible exact Below.refl _ _) | (with_reducible refine Below.drew ?_))))); clear ra qa; obtain ⟨x3, x4⟩ := CE.out _ QG.out)
        | (go_at_call 29; (try go_split_ands); (with_reducible refine (N2.out _ (by repeat (first | (with_reducible exact Hid.out (by assumption)) | (with_reducible exact Below.refl _ _) | (with_reducible refine Below.drew ?_)))).mono ?_); rintro e wb ⟨ub, rfl, rb, qb⟩; have RB := Lib.hid (StM.fresh (w0 := w) (by repeat (first | (with_reducible exact Hid.out (by assumption)) | (with_reducible exact Below.refl _ _) | (with_reducible refine Below.drew ?_))) rb); have QB := Lib.hid qb; (have QH : Hid (Below w.heap.size w wb) := Lib.hid (by (refine next0 ?_ qb; repeat (first | (with_reducible exact Hid.out (by assumption)) | (with_reducible exact Below.refl _ _) | (with_reducible refine Below.drew ?_))))); clear rb qb; obtain ⟨x3, x4⟩ := CE.out _ QH.out))
    all_goals
      go_wp2_with fail
      go_meet
      refine ⟨?_, ?_, ?_⟩
      · first | (with_reducible exact RA) | exact Lib.hid (RA.out.step (by (repeat (with_reducible refine Below.drew ?_)); first | (with_reducible exact Below.refl _ _) | (first | (exact QB.out) | (refine undrew ?_; (first | (exact QB.out) | (refine undrew ?_; (first | (exact QB.out) | (refine undrew ?_; (first | (exact QB.out) | (refine undrew ?_; (first | (exact QB.out) | (refine undrew ?_; (first | (exact QB.out) | (refine undrew ?_; (first | (exact QB.out) | (refine undrew ?_; (first | (exact QB.out) | (refine undrew ?_; (first | (exact QB.out) | (refine undrew ?_; (first | (exact QB.out) | (refine undrew ?_; (first | (exact QB.out) | (refine undrew ?_; (first | (exact QB.out) | (refine undrew ?_; (first | (exact QB.out) | (refine undrew ?_; (first | (exact QB.out) | (refine undrew ?_; (first | (exact QB.out))))))))))))))))))))))))))))))))
      · first | (with_reducible exact RB) | exact Lib.hid (RB.out.step (by (repeat (with_reducible refine Below.drew ?_)); first | (with_reducible exact Below.refl _ _) | (first | (exact QA.out) | (refine undrew ?_; (first | (exact QA.out) | (refine undrew ?_; (first | (exact QA.out) | (refine undrew ?_; (first | (exact QA.out) | (refine undrew ?_; (first | (exact QA.out) | (refine undrew ?_; (first | (exact QA.out) | (refine undrew ?_; (first | (exact QA.out) | (refine undrew ?_; (first | (exact QA.out) | (refine undrew ?_; (first | (exact QA.out) | (refine undrew ?_; (first | (exact QA.out) | (refine undrew ?_; (first | (exact QA.out) | (refine undrew ?_; (first | (exact QA.out) | (refine undrew ?_; (first | (exact QA.out) | (refine undrew ?_; (first | (exact QA.out) | (refine undrew ?_; (first | (exact QA.out))))))))))))))))))))))))))))))))
      · exact Lib.hid (by repeat (first | (with_reducible exact Hid.out (by assumption)) | (with_reducible exact Below.refl _ _) | (with_reducible refine Below.drew ?_)))
  case rest =>
  generalize hww : wc = w7 at *
  clear hww
  obtain ⟨r1, r2, q7⟩ := hcut
  obtain ⟨p1, c1, rfl⟩ := (r1.out _ (Below.refl _ _)).form
  obtain ⟨p2, c2, rfl⟩ := (r2.out _ (Below.refl _ _)).form
  go_wp2_with fail
  refine bodyPost_ret (v := .tuple #[.slice p1 (numsOf F).length c1, .slice p2 (numsOf M).length c2]) (by simp [results, Try.results12, go_sem]) rfl ?_
  exact ⟨_, _, rfl, r1.out, r2.out, q7.out⟩
/-- A row of numbers that a set engine leaves as it is. -/
def LtN (ge gb gv : Nat) (L : List Int) (w : World) (v : Value) : Prop := ∀ z, Lt (ex3 ge gb gv) w z → RowE KN (· < z.heap.size) z L v
def LtB (ge gb gv : Nat) (L : List Bool) (w : World) (v : Value) : Prop := ∀ z, Lt (ex3 ge gb gv) w z → RowE KB (· < z.heap.size) z L v
section
variable {n : Nt} {B s ge gb gv : Nat} {st ip st0 ip0 : List Int} {wk : Int} {w w' : World}
theorem no3 {b : Nat} (hg : ge < s ∧ gb < s ∧ gv < s) (h : s ≤ b) : ¬ ex3 ge gb gv b := fun e => by rcases e with e | e | e <;> omega
theorem LtN.of {L : List Int} {v : Value} (hg : ge < s ∧ gb < s ∧ gv < s) (h : StM s L w v) : LtN ge gb gv L w v := fun _ q => ((h w (Below.refl _ _)).keep fun _ o hb => q.cell (o := o) hb.2 (no3 hg hb.1)).wide fun _ hb => Nat.lt_of_lt_of_le hb.2 q.size
theorem LtB.of {L : List Bool} {v : Value} (hg : ge < s ∧ gb < s ∧ gv < s) (h : RowE KB (fun b => s ≤ b ∧ b < w.heap.size) w L v) : LtB ge gb gv L w v := fun _ q => (h.keep fun _ o hb => q.cell (o := o) hb.2 (no3 hg hb.1)).wide fun _ hb => Nat.lt_of_lt_of_le hb.2 q.size
theorem LtN.step {L : List Int} {v : Value} (h : LtN ge gb gv L w v) (q : Lt (ex3 ge gb gv) w w') : LtN ge gb gv L w' v := fun z k => h z (q.trans k)
theorem LtB.step {L : List Bool} {v : Value} (h : LtB ge gb gv L w v) (q : Lt (ex3 ge gb gv) w w') : LtB ge gb gv L w' v := fun z k => h z (q.trans k)
theorem LtN.row {L : List Int} {v : Value} (h : LtN ge gb gv L w v) : RowE KN (· < w.heap.size) w L v := h w (Lt.refl _ _)
theorem LtB.row {L : List Bool} {v : Value} (h : LtB ge gb gv L w v) : RowE KB (· < w.heap.size) w L v := h w (Lt.refl _ _)
theorem Eg.lts (h : Eg n B ge gb gv st ip wk w) : ge < w.heap.size ∧ gb < w.heap.size ∧ gv < w.heap.size := by
  obtain ⟨⟨_, _, _, _, h1⟩, _⟩ := h
  exact ⟨h1.lte, h1.ltb, h1.ltv⟩
theorem lts_le {t : Nat} (h : ge < s ∧ gb < s ∧ gv < s) (q : s ≤ t) : ge < t ∧ gb < t ∧ gv < t := ⟨by omega, by omega, by omega⟩
theorem state_low_eg (hb : n.bases.length ≤ 1000000) (hi : n.inputs.length ≤ 1000000) (b1 : numsB st n.bases.length = true ∧ numsB ip n.inputs.length = true) (h : Eg n B ge gb gv st ip wk w) : Calls Try.prog 12 #[.pointer (some ⟨ge, 0, none⟩)] w (StaF st ip w) := by
  obtain ⟨⟨cb, R, vf, vm, h1⟩, h2⟩ := h
  have := state_low n _ _ _ w ge gb gv cb _ R vf vm wk (by rw [memb_len]; exact hb) (by rw [memb_len]; exact hi) h1
  rw [of_members b1.1, of_members b1.2] at this
  exact this
/-- Set, with numbers in range. -/
theorem set_st {f : Tm → Bool} (hck : chkN f n = 0) (hb : n.bases.length ≤ 1000000) (hi : n.inputs.length ≤ 1000000) (b1 : numsB st n.bases.length = true ∧ numsB ip n.inputs.length = true) {vs vi : Value} (h : Eg n B ge gb gv st0 ip0 wk w)
    (hs : RowE KN (· < w.heap.size) w st vs) (hip : RowE KN (· < w.heap.size) w ip vi) : Calls Try.prog 13 #[.pointer (some ⟨ge, 0, none⟩), vs, vi] w fun e w' =>
      ∃ (c : Nat) (k : Int), e = .returned (.tuple #[.int .i64 (c : Int), .int .i64 0]) ∧ Eg n B ge gb gv st ip k w' ∧ Lt (ex3 ge gb gv) w w' :=
  (set_eg hck hb hi b1 h hs hip).mono fun _ _ h => ⟨_, _, h⟩
/-- Set to what holds. -/
theorem set_again {f : Tm → Bool} (hck : chkN f n = 0) (hb : n.bases.length ≤ 1000000) (hi : n.inputs.length ≤ 1000000) (b1 : numsB st n.bases.length = true ∧ numsB ip n.inputs.length = true) {vs vi : Value} (h : Eg n B ge gb gv st ip wk w)
    (hs : RowE KN (· < w.heap.size) w st vs) (hip : RowE KN (· < w.heap.size) w ip vi) : Calls Try.prog 13 #[.pointer (some ⟨ge, 0, none⟩), vs, vi] w fun e w' =>
      e = .returned (.tuple #[.int .i64 0, .int .i64 0]) ∧ Eg n B ge gb gv st ip 0 w' ∧ Lt (ex3 ge gb gv) w w' := by
  have := set_eg hck hb hi b1 h hs hip
  rw [ch_same, wk_same] at this
  exact this
/-- Set, with any numbers for the bases: an error changes nothing. -/
theorem set_try {f : Tm → Bool} (hck : chkN f n = 0) (hb : n.bases.length ≤ 1000000) (hi : n.inputs.length ≤ 1000000) (b1 : numsB ip n.inputs.length = true) {vs vi : Value} (h : Eg n B ge gb gv st0 ip0 wk w)
    (hs : RowE KN (· < w.heap.size) w st vs) (hip : RowE KN (· < w.heap.size) w ip vi) : Calls Try.prog 13 #[.pointer (some ⟨ge, 0, none⟩), vs, vi] w fun e w' =>
      ∃ (c er : Int) (st1 ip1 : List Int) (k1 : Int), e = .returned (.tuple #[.int .i64 c, .int .i64 er]) ∧ Eg n B ge gb gv st1 ip1 k1 w' ∧ Lt (ex3 ge gb gv) w w' ∧ (er ≠ 0 → st1 = st0 ∧ ip1 = ip0 ∧ k1 = wk) := by
  cases hc : numsB st n.bases.length
  · obtain ⟨p', c', rfl⟩ := hip.form
    refine (set_bad (m' := ip.length) h hc hs).mono ?_
    rintro e w' ⟨rfl, q⟩
    exact ⟨_, _, _, _, _, rfl, h.below q, Lt.of q, fun _ => ⟨rfl, rfl, rfl⟩⟩
  · refine (set_eg hck hb hi ⟨hc, b1⟩ h hs hip).mono ?_
    rintro e w' ⟨rfl, h1, h2⟩
    exact ⟨_, _, _, _, _, rfl, h1, h2, fun e => absurd rfl e⟩
end
end NetDz
end Go.Proofs.Ytgbbpliihglijaa
