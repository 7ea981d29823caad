/- Texts laid together: NetDk; NetEg; NetDa; NetBt; NetPs; NetPl; NetLx; NetFr. Their own heads stand before each. -/
import Derived.Test.YtmancliopfokgaaNetDh
import Derived.Test.YtmancliopfokgaaNetDe
import Derived.Test.YtmancliopfokgaaNetDv
import Derived.Test.YtmancliopfokgaaNetSa
import Derived.Test.YtmancliopfokgaaGBD
import Derived.Test.YtmancliopfokgaaNetBp
import Derived.Test.YtmancliopfokgaaGBB
import Derived.Test.YtmancliopfokgaaNetSz
import Derived.Test.YtmancliopfokgaaNetY
/- The walk of DeltaNone, with what alive answers as a premise. Made by gnDk.py. -/
namespace Go.Proofs.Ytmancliopfokgaa
open Go Go.RowKit
namespace NetDk
open Kit TermM TermI NetM NetN NetK NetA NetC NetI NetMk NetNu NetOk NetEv NetBo NetDn NetDh
/-- alive of law24 answers true. -/
def Alive24 : Prop := ∀ w, Calls Try.prog 9 #[] w fun e w' => e = .returned (.bool true) ∧ Below w.heap.size w w'
set_option maxRecDepth 100000 in
set_option maxHeartbeats 3200000 in
theorem law (AL : Alive24) (p p1 : Option Addr) (n c n1 c1 : Nat) (g : Int) (w : World) (hn : n ≤ maxLen) (hn1 : n1 ≤ maxLen) :
    Calls Try.prog 6 #[.agg #[.slice p n c, .slice p1 n1 c1], .int .i64 g] w fun e w' => e = .returned (.bool true) ∧ Below w.heap.size w w' := by
  obtain ⟨W1, hW1⟩ : ∃ z, z = w.alloc (.cells #[.slice p n c, .slice p1 n1 c1] 60) := ⟨_, rfl⟩
  obtain ⟨W2, hW2⟩ : ∃ z, z = W1.alloc (.cells #[.slice p n c, .slice p1 n1 c1] 60) := ⟨_, rfl⟩
  have K1 : Hid (Below w.heap.size w W1) := Lib.hid (by rw [hW1]; exact below_alloc _ _)
  have K2 : Hid (Below W1.heap.size W1 W2) := Lib.hid (by rw [hW2]; exact below_alloc _ _)
  have H1 : Hid (Has W1 w.heap.size #[.slice p n c, .slice p1 n1 c1]) := Lib.hid (by rw [hW1]; exact Has.new _ _ _)
  have H2 : Has W2 W1.heap.size #[.slice p n c, .slice p1 n1 c1] := by rw [hW2]; exact Has.new _ _ _
  have CS := Lib.hid (short_one W1.heap.size 1 p p1 n c n1 c1 W2 (H2.cell 0) (H2.cell 1) hn hn1)
  have A := Lib.hid AL
  have x0 := H1.out.cell 0
  have x1 := H1.out.cell 1
  clear AL H2 hn hn1
  unfold SoB at CS
  go_enter Try.func6, Try.ntmps6
  go_upto_region 1 with fail
  rw [← hW1]
  clear hW1
  go_wp2_with fail
  rw [← hW2]
  clear hW2
  refine CS.out.mono ?_
  rintro e w3 ⟨b, rfl, g3⟩
  have D3 : Hid (Below w.heap.size w w3) := Lib.hid (next0 (next0 K1.out K2.out) g3)
  have H3 := Lib.hid ((H1.out.step0 K2.out).step0 g3)
  clear g3 CS x0 x1
  have A3 := Lib.hid (A.out w3)
  cases b
  · go_wp2_with fail
    refine A3.out.mono ?_
    rintro e w4 ⟨rfl, g4⟩
    have DF := Lib.hid (next0 D3.out g4)
    clear g4 A3
    go_wp2_with fail
    go_ret
    exact ⟨rfl, DF.out⟩
  have x0 := H3.out.cell 0
  have x1 := H3.out.cell 1
  have CT := Lib.hid (set_nil p p1 n c n1 c1 w3)
  go_wp2_with fail
  refine CT.out.mono ?_
  rintro e w4 ⟨rfl, rfl⟩
  clear CT x0 x1
  have CT := Lib.hid (state_nil w3)
  go_wp2_with fail
  refine CT.out.mono ?_
  rintro e w4 ⟨rfl, rfl⟩
  clear CT
  go_wp2_with fail
  refine A3.out.mono ?_
  rintro e w4 ⟨rfl, g4⟩
  have DF := Lib.hid (next0 D3.out g4)
  clear g4 A3
  have V1 := Lib.hid (value_nil g w4)
  have V2 := Lib.hid (values_nil w4)
  have V3 := Lib.hid (work_nil w4)
  go_wp2_with fail
  refine V1.out.mono ?_
  rintro e w5 ⟨rfl, rfl⟩
  clear V1
  go_wp2_with fail
  refine V2.out.mono ?_
  rintro e w5 ⟨rfl, rfl⟩
  clear V2
  go_wp2_with fail
  refine V3.out.mono ?_
  rintro e w5 ⟨rfl, rfl⟩
  clear V3
  go_wp2_with fail
  go_ret
  exact ⟨rfl, DF.out⟩
end NetDk
end Go.Proofs.Ytmancliopfokgaa
/- delta's engine as the laws see it: New, Set, Values, Value, Work, State. Conditions: a valid network. Made by gnEg.py. -/
namespace Go.Proofs.Ytmancliopfokgaa
open Go Go.RowKit
namespace NetEg
open Kit TermM TermI TermH NetM NetN NetK NetA NetC NetI NetMk NetNu NetOk NetEv NetBo NetMb NetS NetDn NetDp NetEm NetLt NetDx NetDw NetDs NetDt NetDe
/-- A live engine of a network, set to bases and inputs; its blocks lie from B on. -/
def Eg (n : Nt) (B ge gb gv : Nat) (st ip : List Int) (wk : Int) (w : World) : Prop :=
  (∃ (cb : Nat) (R : List Value) (vf vm : Value), EngU n ge gb gv cb n.gates.length R (valsN st ip n) (memB st n.bases.length) (memB ip n.inputs.length) vf vm wk w) ∧ B ≤ ge ∧ B ≤ gb ∧ B ≤ gv
section
variable {n : Nt} {B ge gb gv : Nat} {st ip st0 ip0 : List Int} {wk : Int} {w w' : World}
theorem Eg.below (h : Eg n B ge gb gv st ip wk w) (q : Below w.heap.size w w') : Eg n B ge gb gv st ip wk w' := by
  obtain ⟨⟨cb, R, vf, vm, h1⟩, h2⟩ := h
  exact ⟨⟨cb, R, vf, vm, EngU.below h1 q⟩, h2⟩
theorem Eg.self (h : Eg n B ge gb gv st ip wk w) : w.cell? ⟨ge, 0, none⟩ = some (.pointer (some ⟨ge, 0, none⟩)) := by
  obtain ⟨⟨cb, R, vf, vm, h1⟩, _⟩ := h
  exact h1.eng.self
theorem Eg.row (h : Eg n B ge gb gv st ip wk w) (hm : n.gates.length ≤ 1000000) : RowE KB (· < w.heap.size) w (valsN st ip n) (.slice (some ⟨gv, 0, none⟩) (valsN st ip n).length n.gates.length) := by
  obtain ⟨⟨cb, R, vf, vm, h1⟩, _⟩ := h
  refine ⟨_, _, rfl, (fun e => by cases e), by rw [h1.eng.lenV]; exact Nat.le_refl _, by unfold maxLen; omega, fun _ _ => trivial, fun _ => ⟨gv, 0, rfl, h1.ltv, fun i x hx j u hu => ?_⟩⟩
  have hj : j < [Value.bool x].length := (List.getElem?_eq_some_iff.1 hu).1
  obtain rfl : j = 0 := by simp at hj; omega
  have e : Value.bool x = u := Option.some.inj hu
  have e2 : 0 + i * KB.sz + 0 = i := by show 0 + i * 1 + 0 = i; omega
  rw [← e, e2]
  exact h1.eng.val i x hx
theorem values_eg (hm : n.gates.length ≤ 1000000) (h : Eg n B ge gb gv st ip wk w) : Calls Try.prog 15 #[.pointer (some ⟨ge, 0, none⟩)] w (BlE (valsN st ip n) w) := by
  obtain ⟨⟨cb, R, vf, vm, h1⟩, h2⟩ := id h
  exact NetDv.values_live ge _ w _ _ _ h.self (by rw [h1.eng.lenV]; exact h1.eng.values) (h.row hm) (fun _ hb => hb) (by rw [h1.eng.lenV]; exact hm)
theorem value_eg (g : Int) (hm : n.gates.length ≤ 1000000) (h : Eg n B ge gb gv st ip wk w) : Calls Try.prog 22 #[.pointer (some ⟨ge, 0, none⟩), .int .i64 g] w fun e w' => e = .returned (.bool (valB (valsN st ip n) g)) ∧ w = w' := by
  obtain ⟨⟨cb, R, vf, vm, h1⟩, h2⟩ := id h
  exact value_live ge _ g w _ _ _ h.self (by rw [h1.eng.lenV]; exact h1.eng.values) (h.row hm) (fun _ hb => hb)
theorem work_eg (h : Eg n B ge gb gv st ip wk w) : Calls Try.prog 18 #[.pointer (some ⟨ge, 0, none⟩)] w fun e w' => e = .returned (.int .i64 wk) ∧ w = w' := by
  obtain ⟨⟨cb, R, vf, vm, h1⟩, h2⟩ := id h
  exact work_live ge wk w h.self h1.f5
theorem state_eg (hb : n.bases.length ≤ 1000000) (hi : n.inputs.length ≤ 1000000) (b1 : numsB st n.bases.length = true ∧ numsB ip n.inputs.length = true) (h : Eg n B ge gb gv st ip wk w) : Calls Try.prog 12 #[.pointer (some ⟨ge, 0, none⟩)] w (StaE st ip w) := by
  obtain ⟨⟨cb, R, vf, vm, h1⟩, h2⟩ := h
  have := state_any n _ _ _ w ge gb gv cb _ R vf vm wk (by rw [memb_len]; exact hb) (by rw [memb_len]; exact hi) h1
  rw [of_members b1.1, of_members b1.2] at this
  exact this
theorem set_eg {f : Tm → Bool} (hck : chkN f n = 0) (hb : n.bases.length ≤ 1000000) (hi : n.inputs.length ≤ 1000000) (b1 : numsB st n.bases.length = true ∧ numsB ip n.inputs.length = true) {vs vi : Value} (h : Eg n B ge gb gv st0 ip0 wk w)
    (hs : RowE KN (· < w.heap.size) w st vs) (hip : RowE KN (· < w.heap.size) w ip vi) : Calls Try.prog 19 #[.pointer (some ⟨ge, 0, none⟩), vs, vi] w fun e w' =>
      e = .returned (.tuple #[.int .i64 (chN (valsN st0 ip0 n) (valsN st ip n) n.gates.length : Nat), .int .i64 0]) ∧ Eg n B ge gb gv st ip (wkN (valsN st0 ip0 n) (valsN st ip n) n n.gates.length : Nat) w' ∧ Lt (ex3 ge gb gv) w w' := by
  obtain ⟨⟨cb, R, vf, vm, h1⟩, h2⟩ := h
  refine (set_any n st0 ip0 st ip _ _ w ge gb gv cb _ R vf vm vs vi wk w.heap.size hck hb hi (memb_len _ _) (memb_len _ _) (Nat.le_refl _) hs hip b1 h1).mono ?_
  rintro e w' ⟨rfl, h3⟩
  obtain ⟨vf', vm', h4⟩ := h3.ex
  exact ⟨rfl, ⟨⟨cb, R, vf', vm', h4⟩, h2⟩, h3.lt⟩
theorem new_eg (h : Nh) (k : NetIn (· < w.heap.size) w n h) (hz : SzN n) (hck : chkN groundB n = 0) : Calls Try.prog 10 #[.agg (netC n h)] w fun e w' =>
      ∃ ge gb gv, e = .returned (.tuple #[.pointer (some ⟨ge, 0, none⟩), .int .i64 0]) ∧ Eg n w.heap.size ge gb gv [] [] 0 w' ∧ Below w.heap.size w w' := by
  refine (new_any n h w.heap.size w (Nat.le_refl _) k hz hck).mono ?_
  rintro e w' ⟨ge, gb, gv, cb, R, vf, vm, rfl, h1, h2, h3⟩
  exact ⟨ge, gb, gv, rfl, ⟨⟨cb, R, vf, vm, h1⟩, h2⟩, h3⟩
/-- A set engine touches its own blocks only. -/
theorem Eg.lt (h : Eg n B ge gb gv st ip wk w) {a b : World} (hB : B ≤ a.heap.size) (q : Lt (ex3 ge gb gv) a b) : Below B a b := by
  obtain ⟨_, h1, h2, h3⟩ := h
  exact q.toBelow hB fun i e => by rcases e with rfl | rfl | rfl <;> assumption
end
end NetEg
end Go.Proofs.Ytmancliopfokgaa
/- law24's alive: the examples hold. No conditions. Made by gnDa.py. -/
namespace Go.Proofs.Ytmancliopfokgaa
open Go Go.RowKit
namespace NetDa
open Kit TermM TermI TermH NetM NetN NetK NetA NetC NetI NetMk NetNu NetOk NetEv NetBo NetMb NetS NetDn NetDp NetEm NetLt NetDx NetDw NetDs NetDt NetDe NetEg NetSa
theorem bools_eq (S : List Bool) (w : World) (v v' : Value) (ha : RowE KB (· < w.heap.size) w S v) (hl : RowE KB (· < w.heap.size) w S v') :
    Calls Try.prog 14 #[v, v'] w fun e w' => e = .returned (.bool true) ∧ Below w.heap.size w w' :=
  (NetBz.bools_any S S _ _ w v v' ha hl (fun _ h => h) (fun _ h => h)).mono fun _ _ h => ⟨by rw [h.1, decide_eq_true rfl], h.2⟩
theorem ints_eq (S : List Int) (w : World) (v v' : Value) (ha : RowE KN (· < w.heap.size) w S v) (hl : RowE KN (· < w.heap.size) w S v') :
    Calls Try.prog 16 #[v, v'] w fun e w' => e = .returned (.bool true) ∧ Below w.heap.size w w' :=
  (NetZ.ints_any S S _ _ w v v' ha hl (fun _ h => h) (fun _ h => h)).mono fun _ _ h => ⟨by rw [h.1, decide_eq_true rfl], h.2⟩
theorem lit_n (w : World) {g : Nat} (hg : w.heap.size = g) (L : List Int) (cs : Array Value) (hc : cs.toList = L.flatMap KN.cells) (hm : L.length ≤ maxLen) (hi : ∀ x ∈ L, I64 x) : RowE KN (· < (w.alloc (.cells cs 3)).heap.size) (w.alloc (.cells cs 3)) L (.slice (some ⟨g, 0, none⟩) L.length L.length) :=
  hg ▸ row_has hc (Has.new _ _ _) (by simp) hm hi
theorem lit_b (w : World) {g : Nat} (hg : w.heap.size = g) (L : List Bool) (cs : Array Value) (hc : cs.toList = L.flatMap KB.cells) (hm : L.length ≤ maxLen) : RowE KB (· < (w.alloc (.cells cs 4)).heap.size) (w.alloc (.cells cs 4)) L (.slice (some ⟨g, 0, none⟩) L.length L.length) :=
  hg ▸ row_has hc (Has.new _ _ _) (by simp) hm (fun _ _ => trivial)
theorem i64_0 : I64 0 := by unfold I64; omega
theorem v0 : valsN [] [] smpN = [false, true, false] := by kernel_rfl
theorem v1 : valsN [0] [] smpN = [true, false, false] := by kernel_rfl
theorem v2 : valsN [0] [0] smpN = [true, false, false] := by kernel_rfl
theorem c1 : chN (valsN [] [] smpN) (valsN [0] [] smpN) smpN.gates.length = 2 := by kernel_rfl
theorem k1 : wkN (valsN [] [] smpN) (valsN [0] [] smpN) smpN smpN.gates.length = 2 := by kernel_rfl
theorem c2 : chN (valsN [0] [] smpN) (valsN [0] [0] smpN) smpN.gates.length = 0 := by kernel_rfl
theorem k2 : wkN (valsN [0] [] smpN) (valsN [0] [0] smpN) smpN smpN.gates.length = 0 := by kernel_rfl
theorem b1 : numsB [0] smpN.bases.length = true ∧ numsB [] smpN.inputs.length = true := ⟨by kernel_rfl, by kernel_rfl⟩
theorem b2 : numsB [0] smpN.bases.length = true ∧ numsB [0] smpN.inputs.length = true := ⟨by kernel_rfl, by kernel_rfl⟩
theorem g0 : valB (valsN [0] [0] smpN) 0 = true := by rw [v2]; decide
theorem g1 : valB (valsN [0] [0] smpN) 1 = false := by rw [v2]; decide
theorem g3 : valB (valsN [0] [0] smpN) 3 = false := by rw [v2]; decide
theorem s3 : smpN.gates.length ≤ 1000000 := by decide
theorem sb : smpN.bases.length ≤ 1000000 := by decide
theorem si : smpN.inputs.length ≤ 1000000 := by decide
section
variable {B ge gb gv : Nat} {wk : Int} {w : World}
theorem set1 (h : Eg smpN B ge gb gv [] [] wk w) : Calls Try.prog 19 #[.pointer (some ⟨ge, 0, none⟩), .slice (some ⟨w.heap.size, 0, none⟩) 1 1, .slice none 0 0] (w.alloc (.cells #[.int .i64 0] 3)) fun e w' => e = .returned (.tuple #[.int .i64 2, .int .i64 0]) ∧ Eg smpN B ge gb gv [0] [] 2 w' ∧ Lt (ex3 ge gb gv) w w' := by
  have := set_eg smp_ok sb si b1 (h.below (below_alloc _ _)) (lit_n w rfl [0] #[.int .i64 0] rfl (by decide) (fun x hx => by rw [List.mem_singleton.1 hx]; exact i64_0)) (RowE.nil _ _)
  rw [c1, k1] at this
  exact this.mono fun e w' h => ⟨h.1, h.2.1, (Lt.of (below_alloc _ _)).trans h.2.2⟩
theorem set2 (h : Eg smpN B ge gb gv [0] [] wk w) : Calls Try.prog 19 #[.pointer (some ⟨ge, 0, none⟩), .slice (some ⟨w.heap.size, 0, none⟩) 1 1, .slice (some ⟨w.heap.size + 1, 0, none⟩) 1 1] ((w.alloc (.cells #[.int .i64 0] 3)).alloc (.cells #[.int .i64 0] 3)) fun e w' => e = .returned (.tuple #[.int .i64 0, .int .i64 0]) ∧ Eg smpN B ge gb gv [0] [0] 0 w' ∧ Lt (ex3 ge gb gv) w w' := by
  have l0 := lit_n w rfl [0] #[.int .i64 0] rfl (by decide) (fun x hx => by rw [List.mem_singleton.1 hx]; exact i64_0)
  have l1 := lit_n (w.alloc (.cells #[.int .i64 0] 3)) (g := w.heap.size + 1) (by simp) [0] #[.int .i64 0] rfl (by decide) (fun x hx => by rw [List.mem_singleton.1 hx]; exact i64_0)
  have := set_eg smp_ok sb si b2 ((h.below (below_alloc _ _)).below (below_alloc _ (.cells #[.int .i64 0] 3))) ((l0.keep fun b o (hb : b < _) => (below_alloc _ _).cell (p := ⟨b, o, none⟩) hb).wide fun _ hb => Nat.lt_of_lt_of_le hb (below_alloc _ _).size) l1
  rw [c2, k2] at this
  exact this.mono fun e w' h => ⟨h.1, h.2.1, ((Lt.of (below_alloc _ _)).trans (Lt.of (below_alloc _ _))).trans h.2.2⟩
end
set_option maxRecDepth 100000 in
set_option maxHeartbeats 6400000 in
theorem alive_any : NetDk.Alive24 := by
  intro w
  have S0 := Lib.hid (sample_any w)
  go_enter Try.func9, Try.ntmps9
  go_wp2_with fail
  refine S0.out.mono ?_
  rintro e w1 ⟨h, rfl, hn, b1⟩
  have N1 := Lib.hid (new_eg h (hn.wide fun _ hb => hb.2) smp_sz smp_ok)
  have D1 := Lib.hid b1
  clear hn b1 S0
  go_wp2_with fail
  refine N1.out.mono ?_
  rintro e w2 ⟨ge, gb, gv, rfl, hE, g2⟩
  have E2 := Lib.hid hE
  have D2 := Lib.hid (next0 D1.out g2)
  have W12 : Hid (w1.heap.size ≤ w2.heap.size) := Lib.hid g2.size
  clear hE g2 N1
  have V2 := Lib.hid (values_eg s3 E2.out)
  go_wp2_with fail
  refine V2.out.mono ?_
  rintro e w3 ⟨v3, rfl, hv3, g3⟩
  rw [v0] at hv3
  have E3 := Lib.hid (E2.out.below g3)
  have D3 := Lib.hid (next0 D2.out g3)
  have W13 : Hid (w1.heap.size ≤ w3.heap.size) := Lib.hid (by have := g3.size; have := W12.out; omega)
  have R3 := Lib.hid ((hv3.keep (w' := w3.alloc (.cells #[.bool false, .bool true, .bool false] 4)) fun b o hb => (below_alloc _ _).cell (p := ⟨b, o, none⟩) hb.2).wide (ok' := (· < (w3.alloc (.cells #[.bool false, .bool true, .bool false] 4)).heap.size)) fun _ hb => Nat.lt_of_lt_of_le hb.2 (below_alloc _ _).size)
  obtain ⟨p3, c3, rfl⟩ := hv3.form
  have C4 := Lib.hid (bools_eq [false, true, false] _ _ _ R3.out (lit_b w3 rfl [false, true, false] #[.bool false, .bool true, .bool false] rfl (by decide)))
  clear hv3 g3 V2 E2
  go_wp2_with fail
  refine C4.out.mono ?_
  rintro e w4 ⟨rfl, g4⟩
  have E4 := Lib.hid ((E3.out.below (below_alloc _ _)).below g4)
  have D4 := Lib.hid (next0 D3.out (next0 (below_alloc _ _) g4))
  have W14 : Hid (w1.heap.size ≤ w4.heap.size ∧ w.heap.size ≤ w1.heap.size) := Lib.hid ⟨by have := (next0 (below_alloc w3 _) g4).size; have := W13.out; omega, D1.out.size⟩
  clear g4 C4 R3 E3
  have C5 := Lib.hid (set1 E4.out)
  go_wp2_with fail
  refine C5.out.mono ?_
  rintro e w5 ⟨rfl, hE, hL⟩
  have E5 := Lib.hid hE
  have D5 := Lib.hid (D4.out.trans ((hE.lt W14.out.1 hL).mono W14.out.2))
  have S5 := Lib.hid hL.size
  clear hE hL C5
  have C6 := Lib.hid (work_eg E5.out)
  go_wp2_with fail
  refine C6.out.mono ?_
  rintro e w6 ⟨rfl, rfl⟩
  clear C6
  have C7 := Lib.hid (set2 E5.out)
  go_wp2_with fail
  refine C7.out.mono ?_
  rintro e w7 ⟨rfl, hE, hL⟩
  have E7 := Lib.hid hE
  have D7 := Lib.hid (D5.out.trans ((hE.lt (Nat.le_trans W14.out.1 S5.out) hL).mono W14.out.2))
  clear hE hL C7
  have C8 := Lib.hid (state_eg sb si b2 E7.out)
  go_wp2_with fail
  refine C8.out.mono ?_
  rintro e w8 ⟨u8, v8, rfl, hu, hv, g8⟩
  have E8 := Lib.hid (E7.out.below g8)
  have D8 := Lib.hid (next0 D7.out g8)
  have U8 := Lib.hid hu
  have V8 := Lib.hid hv
  obtain ⟨p8, d8, rfl⟩ := (hu w8 (Below.refl _ _)).form
  obtain ⟨q8, f8, rfl⟩ := (hv w8 (Below.refl _ _)).form
  clear hu hv g8 C8
  have C9 := Lib.hid (work_eg E8.out)
  go_wp2_with fail
  refine C9.out.mono ?_
  rintro e w9 ⟨rfl, rfl⟩
  clear C9
  have C9 := Lib.hid (ints_eq [0] _ _ _ (U8.out (w8.alloc (.cells #[.int .i64 0] 3)) (below_alloc _ _)) (lit_n w8 rfl [0] #[.int .i64 0] rfl (by decide) (fun x hx => by rw [List.mem_singleton.1 hx]; exact i64_0)))
  go_wp2_with fail
  refine C9.out.mono ?_
  rintro e w9 ⟨rfl, g9⟩
  have J9 : Hid (Below w8.heap.size w8 w9) := Lib.hid (next0 (below_alloc _ _) g9)
  have E9 := Lib.hid (E8.out.below J9.out)
  have D9 := Lib.hid (next0 D8.out J9.out)
  have V9 := Lib.hid (V8.out.step J9.out)
  clear g9 C9
  have C9 := Lib.hid (ints_eq [0] _ _ _ (V9.out (w9.alloc (.cells #[.int .i64 0] 3)) (below_alloc _ _)) (lit_n w9 rfl [0] #[.int .i64 0] rfl (by decide) (fun x hx => by rw [List.mem_singleton.1 hx]; exact i64_0)))
  go_wp2_with fail
  refine C9.out.mono ?_
  rintro e wa ⟨rfl, ga⟩
  have JA : Hid (Below w9.heap.size w9 wa) := Lib.hid (next0 (below_alloc _ _) ga)
  have EA := Lib.hid (E9.out.below JA.out)
  have DA := Lib.hid (next0 D9.out JA.out)
  clear ga C9
  have X0 := Lib.hid (value_eg 0 s3 EA.out)
  have X1 := Lib.hid (value_eg 1 s3 EA.out)
  have X3 := Lib.hid (value_eg 3 s3 EA.out)
  rw [g0] at X0
  rw [g1] at X1
  rw [g3] at X3
  go_wp2_with fail
  refine X0.out.mono ?_
  rintro e wb ⟨rfl, rfl⟩
  clear X0
  go_wp2_with fail
  refine X1.out.mono ?_
  rintro e wb ⟨rfl, rfl⟩
  clear X1
  go_wp2_with fail
  refine X3.out.mono ?_
  rintro e wb ⟨rfl, rfl⟩
  clear X3
  go_wp2_with fail
  go_ret
  exact ⟨rfl, DA.out⟩
end NetDa
end Go.Proofs.Ytmancliopfokgaa
/- Bits: the numbers whose bits are set. Conditions: the number fits 64 bits. Made by gnBt.py. -/
namespace Go.Proofs.Ytmancliopfokgaa
open Go Go.RowKit
namespace NetBt
open Kit LexM TermM TermI NetM NetN NetK NetA NetI NetMk NetBp
/-- A new row of numbers. -/
def NlE (L : List Int) (w : World) (e : Ending) (w' : World) : Prop := ∃ v, e = .returned v ∧ RowE KN (fun b => w.heap.size ≤ b ∧ b < w'.heap.size) w' L v ∧ Below w.heap.size w w'
theorem NlE.mk {L : List Int} {w w' : World} {v : Value} (h : RowE KN (fun b => w.heap.size ≤ b ∧ b < w'.heap.size) w' L v) (h2 : Below w.heap.size w w') : NlE L w (.returned v) w' := ⟨v, rfl, h, h2⟩
set_option maxRecDepth 100000 in
set_option maxHeartbeats 3200000 in
theorem bits_any (b m : Nat) (hb : b < 18446744073709551616) (w : World) :
    Calls Try.prog 17 #[.int .u64 b, .int .i64 m] w (NlE (bitsL b m) w) := by
  obtain ⟨i0, hi0, hi1, hi2, hi3⟩ := info_parts Try.infoN
  have NS := Lib.hid (nil_own w.heap.size w 3 1)
  have BT := Lib.hid (fun k => bit_test hb k)
  have BG : Hid (∀ k, k < 64 → (bitS b)[k]? = some (b.testBit k)) := Lib.hid (fun k hk => bits_get hk)
  have FIN : Hid (∀ k, k = min m 64 → bitsL b m = numsTo (bitS b) k) := Lib.hid (fun k e => by rw [e]; rfl)
  obtain ⟨bi, hbi⟩ : ∃ z : Int, z = (b : Int) := ⟨_, rfl⟩
  rw [← hbi]
  have HBI := Lib.hid hbi
  clear hbi hb
  go_enter Try.func17, Try.ntmps17
  go_wp2_with fail
  go_loopw [5, 6] (fun u3 i wr => ∃ (k : Nat) (F : List Int), k ≤ m ∧ k ≤ 64 ∧ i = .int .i64 k ∧ Hid (F = numsTo (bitS b) k) ∧ Hid (wr.ownsRow w.heap.size 3 1 u3 F.length (NetI.numV F)) ∧ Hid (∀ x ∈ F, I64 x) ∧ Hid (Below w.heap.size w wr)) (fun _ i _ => 64 - (intOf i).toNat)
  case atStart => exact ⟨0, [], Nat.zero_le _, Nat.zero_le _, rfl, Lib.hid rfl, NS, Lib.hid (fun x hx => by cases hx), Lib.hid (Below.refl _ _)⟩
  case round =>
    obtain ⟨k, F, hkm, hk64, rfl, hF, hO, hI, hD⟩ := hrel
    obtain ⟨va, vc, rfl⟩ := form1 hO.out
    have hFl : F.length ≤ k := by have := nums_len (bitS b) k; rw [← hF.out] at this; exact this
    by_cases hlt : k < m
    · have j1 : (k : Int) < m := by omega
      have j1n : decide (k < m) = true := decide_eq_true hlt
      by_cases h64 : k < 64
      · have j2 : (k : Int) < 64 := by omega
        have j0 : (0 : Int) ≤ (k : Int) := by omega
        have hz3 := hD.out.size
        have BTk := BT.out k
        rw [← HBI.out] at BTk
        obtain ⟨tb, htb⟩ : ∃ tb, b.testBit k = tb := ⟨_, rfl⟩
        have HTB := Lib.hid htb
        rw [htb] at BTk
        clear htb
        cases tb
        · have F2 : Hid (F = numsTo (bitS b) (k + 1)) := Lib.hid (by rw [nums_no (by rw [BG.out k h64, HTB.out]; decide)]; exact hF.out)
          go_wp2_with fail
          go_roundw
          case rel => first | exact ⟨k + 1, F, by omega, by omega, by go_num, F2, hO, hI, hD⟩ | ((repeat (apply Exists.intro)); refine ⟨?_, rfl⟩; exact ⟨k + 1, F, by omega, by omega, by go_num, F2, hO, hI, hD⟩)
          case measure => simp [intOf]; omega
        · have F2 : Hid (F ++ [(k : Int)] = numsTo (bitS b) (k + 1)) := Lib.hid (by rw [nums_yes (by rw [BG.out k h64, HTB.out]), ← hF.out])
          have I2 : Hid (∀ y ∈ F ++ [(k : Int)], I64 y) := Lib.hid (fun y hy => by
            rcases List.mem_append.1 hy with hy | hy
            · exact hI.out y hy
            · rw [List.mem_singleton.1 hy]
              unfold I64
              omega)
          have AA1 : F.length + 1 ≤ maxLen := by unfold maxLen; omega
          have AA2 : (F.length + 1) * 8 ≤ 140737488355328 := by omega
          have AA3 : w.heap.size ≤ (wr.alloc (.cells #[.int .i64 (k : Int)] 3)).heap.size := by simp <;> omega
          go_wp2_with (at_builtin; go_must (refine wpList_append_lies _ rfl _ _ 25 rfl w.heap.size 3 i0 (.int .i64 0) 1 8 Try.underlying25 hi0 hi1 hi2 hi3 rfl (by decide) (.slice va F.length vc) F.length (NetI.numV F) rfl (hO.out.alloc _) ⟨wr.heap.size, 0, none⟩ 1 1 [.int .i64 k] rfl rfl (World.news_of_block (heap_alloc_new wr _)) (one_int k) (by decide) AA1 AA2 AA3 (wr.heap.size + 1) (by simp) ?_; intro g6 c6 w6 hown6 hgrow6 hat6 hlt6; have O6 : Hid (w6.ownsRow w.heap.size 3 1 (.slice (some ⟨g6, 0, none⟩) (F.length + 1) c6) (F ++ [(k : Int)]).length (NetI.numV (F ++ [(k : Int)]))) := Lib.hid (by rw [List.length_append, NetI.numv_app]; exact hown6); have D6 := Lib.hid ((hD.out.alloc hz3 (.cells #[.int .i64 k] 3)).grown hgrow6 (by simp <;> omega) (fun j hj => (hO.out.lt j hj).1)); clear hown6 hgrow6 hat6 hlt6))
          go_roundw
          case rel => first | exact ⟨k + 1, F ++ [(k : Int)], by omega, by omega, by go_num, F2, O6, I2, D6⟩ | ((repeat (apply Exists.intro)); refine ⟨?_, rfl⟩; exact ⟨k + 1, F ++ [(k : Int)], by omega, by omega, by go_num, F2, O6, I2, D6⟩)
          case measure => simp [intOf]; omega
      · have j2 : ¬ (k : Int) < 64 := by omega
        have R7 := Lib.hid (own_row hO.out hI.out)
        have FE : Hid (bitsL b m = F) := Lib.hid (by rw [FIN.out k (by omega), hF.out])
        go_wp2_with fail
        go_ret
        exact NlE.mk (by rw [FE.out]; exact R7.out) hD.out
    · have j1 : ¬ (k : Int) < m := by omega
      have j1n : decide (k < m) = false := decide_eq_false hlt
      have R7 := Lib.hid (own_row hO.out hI.out)
      have FE : Hid (bitsL b m = F) := Lib.hid (by rw [FIN.out k (by omega), hF.out])
      go_wp2_with fail
      go_ret
      exact NlE.mk (by rw [FE.out]; exact R7.out) hD.out
end NetBt
end Go.Proofs.Ytmancliopfokgaa
/- law21's points: a state and a set of inputs as bits. No conditions. Made by gnE2.py. -/
namespace Go.Proofs.Ytmancliopfokgaa
open Go Go.RowKit Go.ChangeShapes Go.Deep
namespace NetPs
open Kit LexM TermM TermI NetM NetN NetK NetO
section
variable {H : Type} {enc : TypeId × Value → H} {W : World} {base : Nat} {sp : Nat → Bool} {held : Bool}
theorem cellsPs : Try.prog.cellsOf 41 = 2 := by kernel_rfl
theorem cellsU : Try.prog.cellsOf 39 = 1 := by kernel_rfl
theorem underPs : ∃ f0 f1 : Field, Try.prog.underlying 41 = some (.struct #[f0, f1]) ∧ f0.offset = 0 ∧ f1.offset = 1 ∧ f0.type = 39 ∧ f1.type = 39 := ⟨_, _, Try.underlying41, rfl, rfl, rfl, rfl⟩
theorem u64_in {n : Nat} {cs : List Value} {x : DataW H × List MemPlace} (h : DataW.trod enc Try.prog W base sp held n 39 cs = some x) : ∃ y : Nat, cs = [.int .u64 (y : Int)] ∧ y < 18446744073709551616 := by
  obtain ⟨a, e0, _, wa⟩ := DataW.trod_int Try.underlying39 h
  obtain ⟨h1, h2⟩ := bounds_u64 wa
  exact ⟨a.toNat, by rw [e0, Int.toNat_of_nonneg h1], by omega⟩
set_option maxRecDepth 100000 in
theorem spoint_in {n : Nat} {cs : List Value} {x : DataW H × List MemPlace} (h : DataW.trod enc Try.prog W base sp held n 41 cs = some x) : ∃ a b : Nat, cs = [.int .u64 (a : Int), .int .u64 (b : Int)] ∧ a < 18446744073709551616 ∧ b < 18446744073709551616 := by
  obtain ⟨f0, f1, hu, o0, o1, y0, y1⟩ := underPs
  obtain ⟨xs, k, hk, hxy, hcl, hxl, hf⟩ := DataW.trod_struct hu h
  rw [cellsPs] at hcl
  match cs, hcl with
  | [v0, v1], _ =>
    match xs, hxl with
    | [x0, x1], _ =>
      have g0 := hf 0 f0 rfl
      have g1 := hf 1 f1 rfl
      simp [o0, o1, y0, y1, cellsU] at g0 g1
      obtain ⟨a, q0, i0⟩ := u64_in g0
      obtain ⟨b, q1, i1⟩ := u64_in g1
      injection q0 with q0 _
      injection q1 with q1 _
      subst q0 q1
      exact ⟨a, b, rfl, i0, i1⟩
end
set_option maxRecDepth 100000 in
theorem open_spoint {H : Type} {enc : TypeId × Value → H} {W : World} {b0 : Nat} {base : Nat} {sp : Nat → Bool} {held : Bool} {v : Value} {d : DataW H} {p : List MemPlace}
    (hv : Value.okWide Try.prog W .any b0 41 v) (h : DataW.Trod enc Try.prog W base sp held 41 v d p) : ∃ a b : Nat, v = .agg #[.int .u64 (a : Int), .int .u64 (b : Int)] ∧ a < 18446744073709551616 ∧ b < 18446744073709551616 := by
  obtain ⟨f0, f1, hu, _⟩ := underPs
  obtain ⟨cs, rfl, hsz⟩ := WideShapes.okWide_struct hu hv
  obtain ⟨fuel, hf⟩ := h
  obtain ⟨a, b, e, k1, k2⟩ := spoint_in hf
  refine ⟨a, b, ?_, k1, k2⟩
  have e : cs.toList = (#[.int .u64 (a : Int), .int .u64 (b : Int)] : Array Value).toList := by simpa [Value.cells] using e
  rw [Array.ext' e]
end NetPs
end Go.Proofs.Ytmancliopfokgaa
/- Rows of points. No conditions. Made by gnPl.py. -/
namespace Go.Proofs.Ytmancliopfokgaa
open Go Go.RowKit Go.ChangeShapes Go.Deep
namespace NetPl
open Kit LexM TermM TermI NetM NetN NetK NetO NetPs
/-- Points: a state and a set of inputs as bits. -/
def KPs : Ke (Nat × Nat) where
  ty := 41
  sz := 2
  cells x := [.int .u64 (x.1 : Int), .int .u64 (x.2 : Int)]
  inn _ _ x := x.1 < 18446744073709551616 ∧ x.2 < 18446744073709551616
  len _ := rfl
  keep h _ := h
  wide h _ := h
set_option maxRecDepth 100000 in
theorem open_points {H : Type} {enc : TypeId × Value → H} {W : World} {b0 : Nat} {base : Nat} {sp : Nat → Bool} {held : Bool} {v : Value} {d : DataW H} {p : List MemPlace}
    (hv : Value.okWide Try.prog W .any b0 29 v) (h : DataW.Trod enc Try.prog W base sp held 29 v d p) : ∃ (l : List (Nat × Nat)) (u : Value), v = u ∧ RowE KPs (· < W.heap.size) W l u := by
  obtain ⟨a0, m0, c0, rfl⟩ := Go.WideShapes.okWide_slice Try.underlying29 hv
  obtain ⟨fuel, hf⟩ := h
  obtain ⟨l, v, e, hin⟩ := row_in KPs (T := 29) Try.underlying29 cellsPs (by decide) (fun _ _ _ h => by
    obtain ⟨a, b, e, h1, h2⟩ := spoint_in h
    exact ⟨(a, b), e, h1, h2⟩) hf
  simp [Value.cells] at e
  subst e
  exact ⟨l, _, rfl, hin⟩
end NetPl
end Go.Proofs.Ytmancliopfokgaa
/- law24's set: an engine is set to bits. Conditions: a live engine of a valid network. Made by gnLx.py. -/
namespace Go.Proofs.Ytmancliopfokgaa
open Go Go.RowKit
namespace NetLx
open Kit TermM TermI TermH NetM NetN NetK NetA NetC NetI NetMk NetNu NetOk NetEv NetBo NetMb NetVv NetS NetDn NetDp NetEm NetLt NetDx NetDw NetDs NetDt NetDe NetEg NetBp NetBt
set_option maxRecDepth 100000 in
set_option maxHeartbeats 12800000 in
theorem set_law {f : Tm → Bool} (n : Nt) (h : Nh) (a b B ge gb gv : Nat) (st0 ip0 : List Int) (wk : Int) (w : World) (hck : chkN f n = 0) (hbm : n.bases.length ≤ 1000000) (him : n.inputs.length ≤ 1000000) (ha : a < 18446744073709551616) (hb : b < 18446744073709551616) (E : Eg n B ge gb gv st0 ip0 wk w) :
    Calls Try.prog 11 #[.pointer (some ⟨ge, 0, none⟩), .agg #[.slice h.gp n.gates.length h.gc, .slice h.rp n.roles.length h.rc, .slice h.bp n.bases.length h.bc, .slice h.ip n.inputs.length h.ic, .slice h.ap n.initial.length h.ac, .slice h.np n.next.length h.nc, .slice h.lp n.legal.length h.lc, .slice h.op n.goals.length h.oc, .slice h.sp n.sees.length h.sc, .int .i64 n.last, .bool n.hid], .agg #[.int .u64 (a : Int), .int .u64 (b : Int)]] w fun e w' =>
      e = .returned (.tuple #[.int .i64 (chN (valsN st0 ip0 n) (valsN (bitsL a n.bases.length) (bitsL b n.inputs.length) n) n.gates.length : Nat), .int .i64 0]) ∧ Eg n B ge gb gv (bitsL a n.bases.length) (bitsL b n.inputs.length) (wkN (valsN st0 ip0 n) (valsN (bitsL a n.bases.length) (bitsL b n.inputs.length) n) n n.gates.length : Nat) w' ∧ Lt (ex3 ge gb gv) w w' := by
  obtain ⟨W1, hW1⟩ : ∃ z, z = w.alloc (.cells #[.slice h.gp n.gates.length h.gc, .slice h.rp n.roles.length h.rc, .slice h.bp n.bases.length h.bc, .slice h.ip n.inputs.length h.ic, .slice h.ap n.initial.length h.ac, .slice h.np n.next.length h.nc, .slice h.lp n.legal.length h.lc, .slice h.op n.goals.length h.oc, .slice h.sp n.sees.length h.sc, .int .i64 n.last, .bool n.hid] 28) := ⟨_, rfl⟩
  obtain ⟨Wb, hWb⟩ : ∃ z, z = W1.alloc (.cells #[.int .u64 (a : Int), .int .u64 (b : Int)] 41) := ⟨_, rfl⟩
  have K1 : Hid (Below w.heap.size w W1) := Lib.hid (by rw [hW1]; exact below_alloc _ _)
  have K2 : Hid (Below W1.heap.size W1 Wb) := Lib.hid (by rw [hWb]; exact below_alloc _ _)
  have hz1 : W1.heap.size = w.heap.size + 1 := by rw [hW1]; simp
  have BB : Hid (Below w.heap.size w Wb) := Lib.hid (next0 K1.out K2.out)
  have H1 : Hid (Has Wb w.heap.size (netC n h)) := Lib.hid (by rw [hWb, hW1]; exact (Has.new _ _ _).alloc _)
  have H2 : Hid (Has Wb (w.heap.size + 1) #[.int .u64 (a : Int), .int .u64 (b : Int)]) := Lib.hid (by rw [hWb, ← hz1]; exact Has.new _ _ _)
  have hzB := BB.out.size
  obtain ⟨ch, hch⟩ : ∃ ch, chN (valsN st0 ip0 n) (valsN (bitsL a n.bases.length) (bitsL b n.inputs.length) n) n.gates.length = ch := ⟨_, rfl⟩
  have HC : Hid (∀ w', Below Wb.heap.size Wb w' → w'.cell? ⟨w.heap.size, 2, none⟩ = some (.slice h.bp n.bases.length h.bc) ∧ w'.cell? ⟨w.heap.size, 3, none⟩ = some (.slice h.ip n.inputs.length h.ic) ∧ w'.cell? ⟨w.heap.size + 1, 0, none⟩ = some (.int .u64 (a : Int)) ∧ w'.cell? ⟨w.heap.size + 1, 1, none⟩ = some (.int .u64 (b : Int))) := Lib.hid (fun w' q => ⟨(hasN (H1.out.step0 q)).2.2.1, (hasN (H1.out.step0 q)).2.2.2.1, (H2.out.step0 q).cell 0, (H2.out.step0 q).cell 1⟩)
  have hzb : Wb.heap.size = w.heap.size + 2 := by rw [hWb]; simp [hz1]
  obtain ⟨l1, l2, l3⟩ : ge < w.heap.size ∧ gb < w.heap.size ∧ gv < w.heap.size := by
    obtain ⟨⟨_, _, _, _, h1⟩, _⟩ := E
    exact ⟨h1.lte, h1.ltb, h1.ltv⟩
  have SE := Lib.hid (fun w' (q : Below Wb.heap.size Wb w') vs vi (hs : RowE KN (· < w'.heap.size) w' (bitsL a n.bases.length) vs) (hi : RowE KN (· < w'.heap.size) w' (bitsL b n.inputs.length) vi) => show Calls Try.prog 19 #[.pointer (some ⟨ge, 0, none⟩), vs, vi] w' fun e w'' => e = .returned (.tuple #[.int .i64 (ch : Nat), .int .i64 0]) ∧ Hid (Eg n B ge gb gv (bitsL a n.bases.length) (bitsL b n.inputs.length) (wkN (valsN st0 ip0 n) (valsN (bitsL a n.bases.length) (bitsL b n.inputs.length) n) n n.gates.length : Nat) w'') ∧ Hid (Lt (ex3 ge gb gv) w w'') ∧ w''.cell? ⟨w.heap.size, 2, none⟩ = some (.slice h.bp n.bases.length h.bc) ∧ w''.cell? ⟨w.heap.size, 3, none⟩ = some (.slice h.ip n.inputs.length h.ic) ∧ w''.cell? ⟨w.heap.size + 1, 0, none⟩ = some (.int .u64 (a : Int)) ∧ w''.cell? ⟨w.heap.size + 1, 1, none⟩ = some (.int .u64 (b : Int)) from by
    have BQ := BB.out.trans (q.mono hzB)
    refine (set_eg hck hbm him ⟨bits_ok a n.bases.length, bits_ok b n.inputs.length⟩ (E.below BQ) hs hi).mono ?_
    rintro e w'' ⟨rfl, h1, h2⟩
    obtain ⟨y1, y2, y3, y4⟩ := HC.out w' q
    have hzw := q.size
    have nn : ∀ t : Nat, w.heap.size ≤ t → ¬ ex3 ge gb gv t := fun t ht e => by rcases e with e | e | e <;> omega
    exact ⟨by rw [hch], Lib.hid h1, Lib.hid ((Lt.of BQ).trans h2), (h2.cell (by omega) (nn _ (by omega))).trans y1, (h2.cell (by omega) (nn _ (by omega))).trans y2, (h2.cell (by omega) (nn _ (by omega))).trans y3, (h2.cell (by omega) (nn _ (by omega))).trans y4⟩)
  have HCH := Lib.hid hch
  have M1 := Lib.hid (fun w' => bits_any a n.bases.length ha w')
  have M2 := Lib.hid (fun w' => bits_any b n.inputs.length hb w')
  have hq0 : Hid (Below Wb.heap.size Wb Wb.drew) := Lib.hid (Below.refl _ _).drew
  have HZ1 := Lib.hid hz1
  clear E hck hbm him ha hb hch K1 K2 hz1 H1 H2 hzb l1 l2 l3
  go_enter Try.func11, Try.ntmps11
  go_upto_region 1 with fail
  have e1 := HZ1.out
  rw [← hW1, ← hWb]
  clear hW1 hWb e1
  go_upto_region 2 with fail
  obtain ⟨x1, x2, x3, x4⟩ := HC.out _ hq0.out
  go_region_held3 (fun w' => w'.cell? ⟨w.heap.size, 2, none⟩ = some (.slice h.bp n.bases.length h.bc) ∧ w'.cell? ⟨w.heap.size, 3, none⟩ = some (.slice h.ip n.inputs.length h.ic) ∧ w'.cell? ⟨w.heap.size + 1, 0, none⟩ = some (.int .u64 (a : Int)) ∧ w'.cell? ⟨w.heap.size + 1, 1, none⟩ = some (.int .u64 (b : Int)))
    (first | (with_reducible assumption) | (with_reducible exact ⟨‹_›, ‹_›, ‹_›, ‹_›⟩) | (with_reducible refine HC.out _ ?_; repeat (first | (with_reducible exact Hid.out (by assumption)) | (with_reducible exact Below.refl _ _) | (with_reducible refine Below.drew ?_))))
    (first
      | (go_at_call 17; (try go_split_ands); (with_reducible refine (M1.out _).mono ?_); rintro e wa ⟨ua, rfl, ra, qa⟩; have RA := Lib.hid (StN.of ra); obtain ⟨pa, ca, rfl⟩ := ra.form; have QA := Lib.hid qa; (have QG : Hid (Below Wb.heap.size Wb wa) := Lib.hid (by (refine next0 ?_ qa; repeat (first | (with_reducible exact Hid.out (by assumption)) | (with_reducible exact Below.refl _ _) | (with_reducible refine Below.drew ?_))))); clear ra qa; obtain ⟨x1, x2, x3, x4⟩ := HC.out _ QG.out)
      | (go_at_call 17; (try go_split_ands); (with_reducible refine (M2.out _).mono ?_); rintro e wb ⟨ub, rfl, rb, qb⟩; have RB := Lib.hid (StN.of rb); obtain ⟨pb, cb, rfl⟩ := rb.form; have QB := Lib.hid qb; (have QH : Hid (Below Wb.heap.size Wb wb) := Lib.hid (by (refine next0 ?_ qb; repeat (first | (with_reducible exact Hid.out (by assumption)) | (with_reducible exact Below.refl _ _) | (with_reducible refine Below.drew ?_))))); clear rb qb; obtain ⟨x1, x2, x3, x4⟩ := HC.out _ QH.out)
      | (go_at_call 19; (try go_split_ands); refine (SE.out _ (by repeat (first | (with_reducible exact Hid.out (by assumption)) | (with_reducible exact Below.refl _ _) | (with_reducible refine Below.drew ?_))) _ _ (RA.out _ (by (repeat (with_reducible refine Below.drew ?_)); first | (with_reducible exact Below.refl _ _) | (first | (exact QB.out) | (refine undrew ?_; (first | (exact QB.out) | (refine undrew ?_; (first | (exact QB.out) | (refine undrew ?_; (first | (exact QB.out) | (refine undrew ?_; (first | (exact QB.out) | (refine undrew ?_; (first | (exact QB.out) | (refine undrew ?_; (first | (exact QB.out) | (refine undrew ?_; (first | (exact QB.out) | (refine undrew ?_; (first | (exact QB.out) | (refine undrew ?_; (first | (exact QB.out) | (refine undrew ?_; (first | (exact QB.out) | (refine undrew ?_; (first | (exact QB.out) | (refine undrew ?_; (first | (exact QB.out) | (refine undrew ?_; (first | (exact QB.out) | (refine undrew ?_; (first | (exact QB.out)))))))))))))))))))))))))))))))) (RB.out _ (by (repeat (with_reducible refine Below.drew ?_)); first | (with_reducible exact Below.refl _ _) | (first | (exact QA.out) | (refine undrew ?_; (first | (exact QA.out) | (refine undrew ?_; (first | (exact QA.out) | (refine undrew ?_; (first | (exact QA.out) | (refine undrew ?_; (first | (exact QA.out) | (refine undrew ?_; (first | (exact QA.out) | (refine undrew ?_; (first | (exact QA.out) | (refine undrew ?_; (first | (exact QA.out) | (refine undrew ?_; (first | (exact QA.out) | (refine undrew ?_; (first | (exact QA.out) | (refine undrew ?_; (first | (exact QA.out) | (refine undrew ?_; (first | (exact QA.out) | (refine undrew ?_; (first | (exact QA.out) | (refine undrew ?_; (first | (exact QA.out) | (refine undrew ?_; (first | (exact QA.out))))))))))))))))))))))))))))))))).mono ?_; rintro e wv ⟨rfl, EV, LV, x1, x2, x3, x4⟩))
  all_goals
    go_wp2_with fail
    refine bodyPost_ret (v := .tuple #[.int .i64 (ch : Nat), .int .i64 0]) (by simp [results, Try.results11, go_sem]) rfl ?_
    exact ⟨by rw [HCH.out], EV.out, LV.out⟩
end NetLx
end Go.Proofs.Ytmancliopfokgaa
/- The walk of DeltaFresh. No conditions. Made by gnFr.py. -/
namespace Go.Proofs.Ytmancliopfokgaa
open Go Go.RowKit
namespace NetFr
open Kit TermM TermI TermH NetM NetN NetK NetA NetC NetI NetMk NetNu NetOk NetEv NetBo NetMb NetVv NetS NetDn NetDp NetEm NetLt NetDx NetDw NetDs NetDt NetDe NetEg NetBp NetBt NetSl NetSz NetSa NetDa NetLx NetPl
theorem ev_bits {n : Nt} (h : chkN groundB n = 0) (a b : Nat) : evE groundB (bitsL a n.bases.length) (bitsL b n.inputs.length) n = 0 := ev_ok h (bits_ok _ _) (bits_ok _ _)
def StB (L : List Bool) (w : World) (v : Value) : Prop := ∀ z, Below w.heap.size w z → RowE KB (fun b => b < z.heap.size) z L v
theorem StB.of {B : Nat} {L : List Bool} {w : World} {v : Value} (h : RowE KB (fun b => B ≤ b ∧ b < w.heap.size) w L v) : StB L w v := fun _ q => (h.keep fun b o hb => q.cell (p := ⟨b, o, none⟩) hb.2).wide fun _ hb => Nat.lt_of_lt_of_le hb.2 q.size
theorem StB.step {L : List Bool} {w w' : World} {v : Value} (h : StB L w v) (q : Below w.heap.size w w') : StB L w' v := fun z k => h z (q.trans (k.mono q.size))
theorem set_some {B ge gb gv : Nat} {st0 ip0 : List Int} {wk : Int} {w : World} (n : Nt) (h : Nh) (a b : Nat) (hck : chkN groundB n = 0) (hbm : n.bases.length ≤ 1000000) (him : n.inputs.length ≤ 1000000) (ha : a < 18446744073709551616) (hb : b < 18446744073709551616) (E : Eg n B ge gb gv st0 ip0 wk w) :
    Calls Try.prog 11 #[.pointer (some ⟨ge, 0, none⟩), .agg (netC n h), .agg #[.int .u64 (a : Int), .int .u64 (b : Int)]] w fun e w'' => ∃ (c : Nat) (wk' : Int), e = .returned (.tuple #[.int .i64 (c : Int), .int .i64 0]) ∧ Eg n B ge gb gv (bitsL a n.bases.length) (bitsL b n.inputs.length) wk' w'' ∧ Lt (ex3 ge gb gv) w w'' :=
  (set_law n h a b B ge gb gv st0 ip0 wk w hck hbm him ha hb E).mono fun _ _ h => ⟨_, _, h⟩
theorem set_step {B ge gb gv : Nat} {st0 ip0 : List Int} {wk : Int} {z w : World} (n : Nt) (h : Nh) (a b : Nat) (hck : chkN groundB n = 0) (hbm : n.bases.length ≤ 1000000) (him : n.inputs.length ≤ 1000000) (hab : a < 18446744073709551616 ∧ b < 18446744073709551616) (hz : z.heap.size ≤ B) (hB : B ≤ w.heap.size) (D : Below z.heap.size z w) (E : Eg n B ge gb gv st0 ip0 wk w) :
    Calls Try.prog 11 #[.pointer (some ⟨ge, 0, none⟩), .agg (netC n h), .agg #[.int .u64 (a : Int), .int .u64 (b : Int)]] w fun e w'' => ∃ (c : Nat) (wk' : Int), e = .returned (.tuple #[.int .i64 (c : Int), .int .i64 0]) ∧ Hid (Eg n B ge gb gv (bitsL a n.bases.length) (bitsL b n.inputs.length) wk' w'') ∧ Hid (Below z.heap.size z w'') ∧ Hid (Below B w w'') :=
  (set_some n h a b hck hbm him hab.1 hab.2 E).mono fun _ _ ⟨c, k, e, h1, h2⟩ => ⟨c, k, e, Lib.hid h1, Lib.hid (D.trans ((h1.lt hB h2).mono hz)), Lib.hid (h1.lt hB h2)⟩
theorem vals_bits {w : World} {vs vi : Value} (n : Nt) (h : Nh) (a b : Nat) (k : NetIn (· < w.heap.size) w n h) (hz : SzN n) (hck : chkN groundB n = 0) (hs : RowE KN (· < w.heap.size) w (bitsL a n.bases.length) vs) (hi : RowE KN (· < w.heap.size) w (bitsL b n.inputs.length) vi) :
    Calls Try.prog 13 #[.agg (netC n h), vs, vi] w (ValsE (valsN (bitsL a n.bases.length) (bitsL b n.inputs.length) n) 0 w) := by
  have := values_any n h (bitsL a n.bases.length) (bitsL b n.inputs.length) w.heap.size w vs vi (Nat.le_refl _) k hz hs hi
  rw [evv_ok (ev_bits hck a b), ev_bits hck a b] at this
  exact this
set_option maxRecDepth 100000 in
set_option maxHeartbeats 12800000 in
theorem law (n : Nt) (h : Nh) (l : List (Nat × Nat)) (w : World) (vl : Value) (k : NetIn (· < w.heap.size) w n h) (hl : RowE KPs (· < w.heap.size) w l vl) :
    Calls Try.prog 3 #[.agg #[.slice h.gp n.gates.length h.gc, .slice h.rp n.roles.length h.rc, .slice h.bp n.bases.length h.bc, .slice h.ip n.inputs.length h.ic, .slice h.ap n.initial.length h.ac, .slice h.np n.next.length h.nc, .slice h.lp n.legal.length h.lc, .slice h.op n.goals.length h.oc, .slice h.sp n.sees.length h.sc, .int .i64 n.last, .bool n.hid], vl] w fun e w' => e = .returned (.bool true) ∧ Below w.heap.size w w' := by
  obtain ⟨Wb, hWb⟩ : ∃ z, z = w.alloc (.cells #[.slice h.gp n.gates.length h.gc, .slice h.rp n.roles.length h.rc, .slice h.bp n.bases.length h.bc, .slice h.ip n.inputs.length h.ic, .slice h.ap n.initial.length h.ac, .slice h.np n.next.length h.nc, .slice h.lp n.legal.length h.lc, .slice h.op n.goals.length h.oc, .slice h.sp n.sees.length h.sc, .int .i64 n.last, .bool n.hid] 28) := ⟨_, rfl⟩
  have BB : Hid (Below w.heap.size w Wb) := Lib.hid (by rw [hWb]; exact below_alloc _ _)
  have H1 : Hid (Has Wb w.heap.size (netC n h)) := Lib.hid (by rw [hWb]; exact Has.new _ _ _)
  have hzB := BB.out.size
  have KW := Lib.hid (fun w' (q : Below Wb.heap.size Wb w') => show Below w.heap.size w w' from BB.out.trans (q.mono hzB))
  have NK := Lib.hid (fun w' (q : Below Wb.heap.size Wb w') => k.deep (KW.out w' q) (Nat.le_refl _))
  have HQ := Lib.hid (fun w' (q : Below Wb.heap.size Wb w') => hasN (H1.out.step0 q))
  have SM := Lib.hid (fun w' (q : Below Wb.heap.size Wb w') => NetSl.law_small n h w.heap.size w' (KW.out w' q).size (NK.out w' q))
  have CR := Lib.hid (fun (hz : SzN n) w' (q : Below Wb.heap.size Wb w') => NetY.rcheck_any n h w.heap.size w' (KW.out w' q).size (NK.out w' q) hz.next hz.legal hz.goals hz.seen)
  have NW := Lib.hid (fun w' (q : Below Wb.heap.size Wb w') => (NK.out w' q).wide fun b hb => Nat.lt_of_lt_of_le hb (KW.out w' q).size)
  obtain ⟨pl, cl, rfl⟩ := hl.form
  have hlm : l.length ≤ maxLen := by obtain ⟨_, h1, h2⟩ := hl.cap; exact Nat.le_trans h1 h2
  unfold maxLen at hlm
  have RL := Lib.hid (fun (k : Nat) (x : Nat × Nat) (hx : l[k]? = some x) w' (q : Below Wb.heap.size Wb w') => show ∃ b o, pl = some ⟨b, o, none⟩ ∧ w'.cell? ⟨b, o + k * 2, none⟩ = some (.int .u64 (x.1 : Int)) ∧ w'.cell? ⟨b, o + k * 2 + 1, none⟩ = some (.int .u64 (x.2 : Int)) ∧ x.1 < 18446744073709551616 ∧ x.2 < 18446744073709551616 from by
    obtain ⟨g, o, e1, e2, e3, e4⟩ := (hl.keep (w' := w') fun b o (hb : b < w.heap.size) => (KW.out w' q).cell (p := ⟨b, o, none⟩) hb).at hx
    exact ⟨g, o, e1, by have := e4 0 _ rfl; simpa [KPs] using this, by have := e4 1 _ rfl; simpa [KPs] using this, e3.1, e3.2⟩)
  have D0 : Hid (Below Wb.heap.size Wb Wb) := Lib.hid (Below.refl _ _)
  clear k hl NK
  generalize hchk : chkN groundB n = ck at *
  have HCK := Lib.hid hchk
  clear hchk
  obtain ⟨LL, hLL⟩ : ∃ z, z = l.length := ⟨_, rfl⟩
  rw [← hLL] at hlm ⊢
  have HLL := Lib.hid hLL
  clear hLL
  go_enter Try.func3, Try.ntmps3
  go_upto_region 1 with fail
  rw [← hWb]
  clear hWb
  have C1 := Lib.hid (SM.out Wb D0.out)
  obtain ⟨q1, q2, q3, q4, q5, q6, q7, q8, q9, q10, q11⟩ := HQ.out Wb D0.out
  go_wp2_with fail
  refine C1.out.mono ?_
  rintro e w1 ⟨b1, rfl, s1, g1⟩
  have J1 : Hid (Below Wb.heap.size Wb w1) := Lib.hid g1
  have D1 : Hid (Below Wb.heap.size Wb w1) := Lib.hid (next0 D0.out g1)
  have S1 := Lib.hid s1
  clear s1
  clear g1 C1 q1 q2 q3 q4 q5 q6 q7 q8 q9 q10 q11
  cases b1
  · have C2 := Lib.hid (alive_any w1)
    go_wp2_with fail
    refine C2.out.mono ?_
    rintro e w2 ⟨rfl, g2⟩
    have J2 : Hid (Below w1.heap.size w1 w2) := Lib.hid g2
    have D2 : Hid (Below Wb.heap.size Wb w2) := Lib.hid (next0 D1.out g2)
    clear g2 C2
    have DF := Lib.hid (KW.out _ D2.out)
    go_wp2_with fail
    go_ret
    exact ⟨rfl, DF.out⟩
  have ZN := Lib.hid (sz_of (S1.out rfl))
  clear S1
  have C2 := Lib.hid (CR.out ZN.out w1 D1.out)
  obtain ⟨q1, q2, q3, q4, q5, q6, q7, q8, q9, q10, q11⟩ := HQ.out w1 D1.out
  go_wp2_with fail
  refine C2.out.mono ?_
  rintro e w2 ⟨rfl, g2⟩
  have J2 : Hid (Below w1.heap.size w1 w2) := Lib.hid g2
  have D2 : Hid (Below Wb.heap.size Wb w2) := Lib.hid (next0 D1.out g2)
  clear g2 C2 q1 q2 q3 q4 q5 q6 q7 q8 q9 q10 q11
  by_cases hc : ck = 0
  rotate_left
  · have i1 : (ck != 0) = true := by simp [hc]
    clear hc
    have C3 := Lib.hid (alive_any w2)
    go_wp2_with fail
    refine C3.out.mono ?_
    rintro e w3 ⟨rfl, g3⟩
    have J3 : Hid (Below w2.heap.size w2 w3) := Lib.hid g3
    have D3 : Hid (Below Wb.heap.size Wb w3) := Lib.hid (next0 D2.out g3)
    clear g3 C3
    have DF := Lib.hid (KW.out _ D3.out)
    go_wp2_with fail
    go_ret
    exact ⟨rfl, DF.out⟩
  have i1 : (ck != 0) = false := by simp [hc]
  have CKN : Hid (chkN groundB n = 0) := Lib.hid (HCK.out.trans hc)
  clear hc HCK CR SM
  by_cases h8 : 8 < LL
  · have C3 := Lib.hid (alive_any w2)
    go_wp2_with fail
    refine C3.out.mono ?_
    rintro e w3 ⟨rfl, g3⟩
    have J3 : Hid (Below w2.heap.size w2 w3) := Lib.hid g3
    have D3 : Hid (Below Wb.heap.size Wb w3) := Lib.hid (next0 D2.out g3)
    clear g3 C3
    have DF := Lib.hid (KW.out _ D3.out)
    go_wp2_with fail
    go_ret
    exact ⟨rfl, DF.out⟩
  have OK := Lib.hid (nok CKN.out)
  have hnb : Hid (n.bases.length ≤ 1000000) := Lib.hid (by have := OK.out.next; have := ZN.out.next; omega)
  have hni : Hid (n.inputs.length ≤ 1000000) := Lib.hid (by have := OK.out.legal; have := ZN.out.legal; omega)
  have hng : Hid (n.gates.length ≤ 1000000) := Lib.hid (by have := OK.out.few; omega)
  have NE := Lib.hid (fun w' (q : Below Wb.heap.size Wb w') => new_eg h (NW.out w' q) ZN.out CKN.out)
  have C3 := Lib.hid (NE.out w2 D2.out)
  obtain ⟨q1, q2, q3, q4, q5, q6, q7, q8, q9, q10, q11⟩ := HQ.out w2 D2.out
  go_wp2_with fail
  refine C3.out.mono ?_
  rintro e w3 ⟨ge, gb, gv, rfl, hE, g3⟩
  have E3 := Lib.hid hE
  have J3 : Hid (Below w2.heap.size w2 w3) := Lib.hid g3
  have D3 : Hid (Below Wb.heap.size Wb w3) := Lib.hid (next0 D2.out g3)
  clear hE g3 C3 q1 q2 q3 q4 q5 q6 q7 q8 q9 q10 q11 i1
  go_wp2_with fail
  have WB3 : Hid (Wb.heap.size ≤ w3.heap.size) := Lib.hid D3.out.size
  have W23 : Hid (Wb.heap.size ≤ w2.heap.size) := Lib.hid D2.out.size
  have CVV := Lib.hid (fun w' (q : Below Wb.heap.size Wb w') a b vs vi hs hi => vals_bits (vs := vs) (vi := vi) n h a b (NW.out w' q) ZN.out CKN.out hs hi)
  go_loopw [7] (fun i wr => ∃ (k : Nat) (st ip : List Int) (wk : Int), k ≤ LL ∧ i = .int .i64 k ∧ Hid (Eg n w2.heap.size ge gb gv st ip wk wr) ∧ Hid (Below Wb.heap.size Wb wr) ∧ Hid (w2.heap.size ≤ wr.heap.size)) (fun i _ => LL - (intOf i).toNat)
  case atStart => exact ⟨0, _, _, _, Nat.zero_le _, rfl, E3, D3, Lib.hid J3.out.size⟩
  case round =>
    obtain ⟨k, st, ip, wk, hk, rfl, hE, hD, hD2⟩ := hrel
    generalize hwo : wr = wo at *
    clear hwo
    by_cases hlt : k < LL
    · obtain ⟨⟨a, b⟩, hx⟩ : ∃ x, l[k]? = some x := ⟨l[k]'(by rw [← HLL.out]; exact hlt), by simp⟩
      obtain ⟨pb, po, rfl, c0, c1, ha, hb⟩ := RL.out k _ hx wo hD.out
      dsimp only at c0 c1 ha hb
      have j0 : (0 : Int) ≤ (k : Int) := by omega
      have j1 : (k : Int) < LL := by omega
      have CZ := Lib.hid (fun w' (q : Below Wb.heap.size Wb w') => show w'.cell? ⟨pb, po + k * 2, none⟩ = some (.int .u64 (a : Int)) ∧ w'.cell? ⟨pb, po + k * 2 + 1, none⟩ = some (.int .u64 (b : Int)) from by
        obtain ⟨b', o', e, h1, h2, _⟩ := RL.out k _ hx w' q
        injection e with e
        injection e with e1 e2
        subst e1 e2
        exact ⟨h1, h2⟩)
      have AB := Lib.hid (And.intro ha hb)
      clear hx ha hb
      have hBo : Hid (w2.heap.size ≤ wo.heap.size) := Lib.hid hD2.out
      have CS := Lib.hid (fun w' (q : Below wo.heap.size wo w') => set_step (z := Wb) (w := w') n h a b CKN.out hnb.out hni.out AB.out W23.out (Nat.le_trans hBo.out q.size) (next0 hD.out q) (hE.out.below q))
      have HC := Lib.hid (fun w' (q : Below Wb.heap.size Wb w') => show w'.cell? ⟨w.heap.size, 0, none⟩ = some (.slice h.gp n.gates.length h.gc) ∧ w'.cell? ⟨w.heap.size, 1, none⟩ = some (.slice h.rp n.roles.length h.rc) ∧ w'.cell? ⟨w.heap.size, 2, none⟩ = some (.slice h.bp n.bases.length h.bc) ∧ w'.cell? ⟨w.heap.size, 3, none⟩ = some (.slice h.ip n.inputs.length h.ic) ∧ w'.cell? ⟨w.heap.size, 4, none⟩ = some (.slice h.ap n.initial.length h.ac) ∧ w'.cell? ⟨w.heap.size, 5, none⟩ = some (.slice h.np n.next.length h.nc) ∧ w'.cell? ⟨w.heap.size, 6, none⟩ = some (.slice h.lp n.legal.length h.lc) ∧ w'.cell? ⟨w.heap.size, 7, none⟩ = some (.slice h.op n.goals.length h.oc) ∧ w'.cell? ⟨w.heap.size, 8, none⟩ = some (.slice h.sp n.sees.length h.sc) ∧ w'.cell? ⟨w.heap.size, 9, none⟩ = some (.int .i64 n.last) ∧ w'.cell? ⟨w.heap.size, 10, none⟩ = some (.bool n.hid) ∧ w'.cell? ⟨pb, po + k * 2, none⟩ = some (.int .u64 (a : Int)) ∧ w'.cell? ⟨pb, po + k * 2 + 1, none⟩ = some (.int .u64 (b : Int)) from ⟨(HQ.out w' q).1, (HQ.out w' q).2.1, (HQ.out w' q).2.2.1, (HQ.out w' q).2.2.2.1, (HQ.out w' q).2.2.2.2.1, (HQ.out w' q).2.2.2.2.2.1, (HQ.out w' q).2.2.2.2.2.2.1, (HQ.out w' q).2.2.2.2.2.2.2.1, (HQ.out w' q).2.2.2.2.2.2.2.2.1, (HQ.out w' q).2.2.2.2.2.2.2.2.2.1, (HQ.out w' q).2.2.2.2.2.2.2.2.2.2, (CZ.out w' q).1, (CZ.out w' q).2⟩)
      clear c0 c1
      go_upto_region 9 with fail
      go_cut [8, 9] (fun s t wx => t = .int .i64 0 ∧ ∃ (c : Nat) (wk' : Int), s = .int .i64 (c : Int) ∧ Hid (Eg n w2.heap.size ge gb gv (bitsL a n.bases.length) (bitsL b n.inputs.length) wk' wx) ∧ Hid (Below Wb.heap.size Wb wx) ∧ Hid (w2.heap.size ≤ wx.heap.size))
      case first =>
        have hq0 : Hid (Below wo.heap.size wo wo.drew) := Lib.hid (Below.refl _ _).drew
        have hq1 : Hid (Below Wb.heap.size Wb wo.drew) := Lib.hid hD.out.drew
        obtain ⟨x1, x2, x3, x4, x5, x6, x7, x8, x9, x10, x11, x12, x13⟩ := HC.out _ hq1.out
        go_region_held3 (fun w' => w'.cell? ⟨w.heap.size, 0, none⟩ = some (.slice h.gp n.gates.length h.gc) ∧ w'.cell? ⟨w.heap.size, 1, none⟩ = some (.slice h.rp n.roles.length h.rc) ∧ w'.cell? ⟨w.heap.size, 2, none⟩ = some (.slice h.bp n.bases.length h.bc) ∧ w'.cell? ⟨w.heap.size, 3, none⟩ = some (.slice h.ip n.inputs.length h.ic) ∧ w'.cell? ⟨w.heap.size, 4, none⟩ = some (.slice h.ap n.initial.length h.ac) ∧ w'.cell? ⟨w.heap.size, 5, none⟩ = some (.slice h.np n.next.length h.nc) ∧ w'.cell? ⟨w.heap.size, 6, none⟩ = some (.slice h.lp n.legal.length h.lc) ∧ w'.cell? ⟨w.heap.size, 7, none⟩ = some (.slice h.op n.goals.length h.oc) ∧ w'.cell? ⟨w.heap.size, 8, none⟩ = some (.slice h.sp n.sees.length h.sc) ∧ w'.cell? ⟨w.heap.size, 9, none⟩ = some (.int .i64 n.last) ∧ w'.cell? ⟨w.heap.size, 10, none⟩ = some (.bool n.hid) ∧ w'.cell? ⟨pb, po + k * 2, none⟩ = some (.int .u64 (a : Int)) ∧ w'.cell? ⟨pb, po + k * 2 + 1, none⟩ = some (.int .u64 (b : Int)))
          (first | (with_reducible assumption) | (with_reducible exact ⟨‹_›, ‹_›, ‹_›, ‹_›, ‹_›, ‹_›, ‹_›, ‹_›, ‹_›, ‹_›, ‹_›, ‹_›, ‹_›⟩) | (with_reducible refine HC.out _ ?_; repeat (first | (with_reducible exact Hid.out (by assumption)) | (with_reducible exact Below.refl _ _) | (with_reducible refine Below.drew ?_))))
          (first | (go_at_call 11; (try go_split_ands); refine (CS.out _ (by repeat (first | (with_reducible exact Hid.out (by assumption)) | (with_reducible exact Below.refl _ _) | (with_reducible refine Below.drew ?_)))).mono ?_; rintro e w5 ⟨c5, k5, rfl, E5, D5, J5⟩; have Z5 : Hid (w2.heap.size ≤ w5.heap.size) := Lib.hid (Nat.le_trans hBo.out J5.out.size); obtain ⟨x1, x2, x3, x4, x5, x6, x7, x8, x9, x10, x11, x12, x13⟩ := HC.out _ D5.out))
        all_goals
          go_wp2_with fail
          go_meet
          exact ⟨rfl, c5, k5, rfl, E5, D5, Z5⟩
      case rest =>
      generalize hww : wc = w5 at *
      clear hww
      obtain ⟨rfl, c5, k5, rfl, E5, D5, Z5⟩ := hcut
      have C6 := Lib.hid (NE.out w5 D5.out)
      clear CS hE hD hBo
      obtain ⟨q1, q2, q3, q4, q5, q6, q7, q8, q9, q10, q11⟩ := HQ.out w5 D5.out
      go_wp2_with fail
      refine C6.out.mono ?_
      rintro e w6 ⟨he, hb', hv, rfl, hE6, g6⟩
      have Y6 := Lib.hid hE6
      have E6 := Lib.hid (E5.out.below g6)
      have D6 := Lib.hid (next0 D5.out g6)
      have J6 := Lib.hid g6
      clear hE6 g6 C6 q1 q2 q3 q4 q5 q6 q7 q8 q9 q10 q11
      have W5 : Hid (Wb.heap.size ≤ w5.heap.size) := Lib.hid D5.out.size
      have CS := Lib.hid (fun w' (q : Below w6.heap.size w6 w') => set_step (z := w5) (w := w') n h a b CKN.out hnb.out hni.out AB.out (Nat.le_refl _) (Nat.le_trans J6.out.size q.size) (next0 J6.out q) (Y6.out.below q))
      have HD := Lib.hid (fun w' (q : Below w5.heap.size w5 w') => HC.out w' (next0 D5.out q))
      go_upto_region 13 with fail
      go_cut [9] (fun t wx => t = .int .i64 0 ∧ ∃ wk' : Int, Hid (Eg n w5.heap.size he hb' hv (bitsL a n.bases.length) (bitsL b n.inputs.length) wk' wx) ∧ Hid (Below w5.heap.size w5 wx))
      case first =>
        have hq0 : Hid (Below w6.heap.size w6 w6.drew) := Lib.hid (Below.refl _ _).drew
        have hq1 : Hid (Below w5.heap.size w5 w6.drew) := Lib.hid J6.out.drew
        obtain ⟨x1, x2, x3, x4, x5, x6, x7, x8, x9, x10, x11, x12, x13⟩ := HD.out _ hq1.out
        go_region_held3 (fun w' => w'.cell? ⟨w.heap.size, 0, none⟩ = some (.slice h.gp n.gates.length h.gc) ∧ w'.cell? ⟨w.heap.size, 1, none⟩ = some (.slice h.rp n.roles.length h.rc) ∧ w'.cell? ⟨w.heap.size, 2, none⟩ = some (.slice h.bp n.bases.length h.bc) ∧ w'.cell? ⟨w.heap.size, 3, none⟩ = some (.slice h.ip n.inputs.length h.ic) ∧ w'.cell? ⟨w.heap.size, 4, none⟩ = some (.slice h.ap n.initial.length h.ac) ∧ w'.cell? ⟨w.heap.size, 5, none⟩ = some (.slice h.np n.next.length h.nc) ∧ w'.cell? ⟨w.heap.size, 6, none⟩ = some (.slice h.lp n.legal.length h.lc) ∧ w'.cell? ⟨w.heap.size, 7, none⟩ = some (.slice h.op n.goals.length h.oc) ∧ w'.cell? ⟨w.heap.size, 8, none⟩ = some (.slice h.sp n.sees.length h.sc) ∧ w'.cell? ⟨w.heap.size, 9, none⟩ = some (.int .i64 n.last) ∧ w'.cell? ⟨w.heap.size, 10, none⟩ = some (.bool n.hid) ∧ w'.cell? ⟨pb, po + k * 2, none⟩ = some (.int .u64 (a : Int)) ∧ w'.cell? ⟨pb, po + k * 2 + 1, none⟩ = some (.int .u64 (b : Int)))
          (first | (with_reducible assumption) | (with_reducible exact ⟨‹_›, ‹_›, ‹_›, ‹_›, ‹_›, ‹_›, ‹_›, ‹_›, ‹_›, ‹_›, ‹_›, ‹_›, ‹_›⟩) | (with_reducible refine HD.out _ ?_; repeat (first | (with_reducible exact Hid.out (by assumption)) | (with_reducible exact Below.refl _ _) | (with_reducible refine Below.drew ?_))))
          (first | (go_at_call 11; (try go_split_ands); refine (CS.out _ (by repeat (first | (with_reducible exact Hid.out (by assumption)) | (with_reducible exact Below.refl _ _) | (with_reducible refine Below.drew ?_)))).mono ?_; rintro e w7 ⟨c7, k7, rfl, Y7, J7, _⟩; obtain ⟨x1, x2, x3, x4, x5, x6, x7, x8, x9, x10, x11, x12, x13⟩ := HD.out _ J7.out))
        all_goals
          go_wp2_with fail
          go_meet
          exact ⟨rfl, k7, Y7, J7⟩
      case rest =>
      generalize hww : wc = w7 at *
      clear hww
      obtain ⟨rfl, k7, Y7, J7⟩ := hcut
      have E7 := Lib.hid (E5.out.below J7.out)
      have D7 := Lib.hid (next0 D5.out J7.out)
      clear CS HD E6 Y6 D6 J6 E5
      have C8 := Lib.hid (state_eg hnb.out hni.out ⟨bits_ok a n.bases.length, bits_ok b n.inputs.length⟩ E7.out)
      go_wp2_with fail
      refine C8.out.mono ?_
      rintro e w8 ⟨u8, v8, rfl, hu, hv8, g8⟩
      have E8 := Lib.hid (E7.out.below g8)
      have Y8 := Lib.hid (Y7.out.below g8)
      have D8 := Lib.hid (next0 D7.out g8)
      have S78 : Hid (w7.heap.size ≤ w8.heap.size) := Lib.hid g8.size
      have U8 := Lib.hid hu
      have V8 := Lib.hid hv8
      obtain ⟨p8, d8, rfl⟩ := (hu w8 (Below.refl _ _)).form
      obtain ⟨q8, f8, rfl⟩ := (hv8 w8 (Below.refl _ _)).form
      clear hu hv8 g8 C8 E7 Y7
      have C9 := Lib.hid (CVV.out w8 D8.out a b _ _ (U8.out w8 (Below.refl _ _)) (V8.out w8 (Below.refl _ _)))
      obtain ⟨q1, q2, q3, q4, q5, q6, q7, q8, q9, q10, q11⟩ := HQ.out w8 D8.out
      go_wp2_with fail
      refine C9.out.mono ?_
      rintro e w9 ⟨v9, rfl, hv9, g9⟩
      have R9 := Lib.hid (StB.of hv9)
      obtain ⟨p9, c9, rfl⟩ := hv9.form
      have E9 := Lib.hid (E8.out.below g9)
      have Y9 := Lib.hid (Y8.out.below g9)
      have D9 := Lib.hid (next0 D8.out g9)
      have S79 : Hid (w7.heap.size ≤ w9.heap.size) := Lib.hid (by have := S78.out; have := g9.size; omega)
      have U9 := Lib.hid (U8.out.step g9)
      clear hv9 g9 C9 E8 Y8 U8 V8 q1 q2 q3 q4 q5 q6 q7 q8 q9 q10 q11
      have VX := Lib.hid (fun w' (q : Below w9.heap.size w9 w') => values_eg hng.out (E9.out.below q))
      have VY := Lib.hid (fun w' (q : Below w9.heap.size w9 w') => values_eg hng.out (Y9.out.below q))
      have BL := Lib.hid (fun w' v (q : Below w9.heap.size w9 w') ra => bools_eq (valsN (bitsL a n.bases.length) (bitsL b n.inputs.length) n) w' v _ ra (R9.out w' q))
      have IL := Lib.hid (fun w' v (q : Below w9.heap.size w9 w') ra => ints_eq (bitsL a n.bases.length) w' _ v (U9.out w' q) ra)
      have MB := Lib.hid (fun w' => bits_any a n.bases.length AB.out.1 w')
      have HK := Lib.hid (fun w' (q : Below w9.heap.size w9 w') => HC.out w' (next0 D9.out q))
      generalize valsN (bitsL a n.bases.length) (bitsL b n.inputs.length) n = V at *
      generalize bitsL a n.bases.length = SA at *
      generalize bitsL b n.inputs.length = SB at *
      generalize V.length = lV at *
      generalize SA.length = lA at *
      generalize SB.length = lB at *
      go_upto_region 16 with fail
      go_cut [118] (fun s wx => s = .bool false ∧ Hid (Below w9.heap.size w9 wx))
      case first =>
        have HK2 := Lib.hid (fun w' (q : Below w9.heap.size w9 w') => show w'.cell? ⟨pb, po + k * 2, none⟩ = some (.int .u64 (a : Int)) ∧ w'.cell? ⟨w.heap.size, 2, none⟩ = some (.slice h.bp n.bases.length h.bc) from ⟨(CZ.out w' (next0 D9.out q)).1, (HQ.out w' (next0 D9.out q)).2.2.1⟩)
        have hq0 : Hid (Below w9.heap.size w9 w9.drew) := Lib.hid (Below.refl _ _).drew
        refine wp_region_held_drew (S := (fun w' => w'.cell? ⟨pb, po + k * 2, none⟩ = some (.int .u64 (a : Int)) ∧ w'.cell? ⟨w.heap.size, 2, none⟩ = some (.slice h.bp n.bases.length h.bc))) (by kernel_rfl) (HK2.out _ hq0.out) (fun hHeld => ?_)
        generalize hw0 : w9.drew = wd0 at hHeld hq0 ⊢
        clear hw0
        refine wpAnyH_take (i := 0) (v := ?_) rfl (by kernel_rfl) (by kernel_rfl) (by kernel_rfl) (fun _ _ _ h => h) (Or.inl ⟨by rfl, ?_⟩) (by assumption) ?_
        rotate_left
        · intro w' hSw; (try dsimp only at hSw); (try simp only [List.getElem_toArray, List.getElem_cons_zero]); (try go_split_ands); go_simp; try with_reducible rfl
        (try simp only [List.getElem_toArray, List.getElem_cons_zero, Act.put, List.setIfInBounds_toArray, List.set_cons_zero, List.set_cons_succ])
        refine wpAnyH_take (i := 1) (v := ?_) rfl (by kernel_rfl) (by kernel_rfl) (by kernel_rfl) (fun _ _ _ h => h) (Or.inl ⟨by rfl, ?_⟩) (by assumption) ?_
        rotate_left
        · intro w' hSw; (try dsimp only at hSw); (try simp only [List.getElem_toArray, List.getElem_cons_zero, List.getElem_cons_succ]); (try go_split_ands); go_simp; try with_reducible rfl
        (try simp only [List.getElem_toArray, List.getElem_cons_zero, List.getElem_cons_succ, Act.put, List.setIfInBounds_toArray, List.set_cons_zero, List.set_cons_succ])
        refine wpAnyH_take (i := 2) (v := ?_) rfl (by kernel_rfl) (by kernel_rfl) (by kernel_rfl) (fun _ _ _ h => h) (Or.inl ⟨by rfl, ?_⟩) (by assumption) ?_
        rotate_left
        · intro w' hSw; (try dsimp only at hSw); (try simp only [List.getElem_toArray, List.getElem_cons_zero, List.getElem_cons_succ]); (try go_split_ands); go_simp; try with_reducible rfl
        (try simp only [List.getElem_toArray, List.getElem_cons_zero, List.getElem_cons_succ, Act.put, List.setIfInBounds_toArray, List.set_cons_zero, List.set_cons_succ])
        refine wpAnyH_take (i := 3) (v := ?_) rfl (by kernel_rfl) (by kernel_rfl) (by kernel_rfl) (fun _ _ _ h => h) (Or.inl ⟨by rfl, ?_⟩) (by assumption) ?_
        rotate_left
        · intro w' hSw; (try dsimp only at hSw); (try simp only [List.getElem_toArray, List.getElem_cons_zero, List.getElem_cons_succ]); (try go_split_ands); go_simp; try with_reducible rfl
        (try simp only [List.getElem_toArray, List.getElem_cons_zero, List.getElem_cons_succ, Act.put, List.setIfInBounds_toArray, List.set_cons_zero, List.set_cons_succ])
        refine wpAnyH_take (i := 4) (v := ?_) rfl (by kernel_rfl) (by kernel_rfl) (by kernel_rfl) (fun _ _ _ h => h) (Or.inl ⟨by rfl, ?_⟩) (by assumption) ?_
        rotate_left
        · intro w' hSw; (try dsimp only at hSw); (try simp only [List.getElem_toArray, List.getElem_cons_zero, List.getElem_cons_succ]); (try go_split_ands); go_simp; try with_reducible rfl
        (try simp only [List.getElem_toArray, List.getElem_cons_zero, List.getElem_cons_succ, Act.put, List.setIfInBounds_toArray, List.set_cons_zero, List.set_cons_succ])
        refine wpAnyH_take (i := 5) (v := ?_) rfl (by kernel_rfl) (by kernel_rfl) (by kernel_rfl) (fun _ _ _ h => h) (Or.inl ⟨by rfl, ?_⟩) (by assumption) ?_
        rotate_left
        · intro w' hSw; (try dsimp only at hSw); (try simp only [List.getElem_toArray, List.getElem_cons_zero, List.getElem_cons_succ]); (try go_split_ands); go_simp; try with_reducible rfl
        (try simp only [List.getElem_toArray, List.getElem_cons_zero, List.getElem_cons_succ, Act.put, List.setIfInBounds_toArray, List.set_cons_zero, List.set_cons_succ])
        refine wpAnyH_take (i := 6) (v := ?_) rfl (by kernel_rfl) (by kernel_rfl) (by kernel_rfl) (fun _ _ _ h => h) (Or.inl ⟨by rfl, ?_⟩) (by assumption) ?_
        rotate_left
        · intro w' hSw; (try dsimp only at hSw); (try simp only [List.getElem_toArray, List.getElem_cons_zero, List.getElem_cons_succ]); (try go_split_ands); go_simp; try with_reducible rfl
        (try simp only [List.getElem_toArray, List.getElem_cons_zero, List.getElem_cons_succ, Act.put, List.setIfInBounds_toArray, List.set_cons_zero, List.set_cons_succ])
        refine wpAnyH_take (i := 7) (v := ?_) rfl (by kernel_rfl) (by kernel_rfl) (by kernel_rfl) (fun _ _ _ h => h) (Or.inl ⟨by rfl, ?_⟩) (by assumption) ?_
        rotate_left
        · intro w' hSw; (try dsimp only at hSw); (try simp only [List.getElem_toArray, List.getElem_cons_zero, List.getElem_cons_succ]); (try go_split_ands); go_simp; try with_reducible rfl
        (try simp only [List.getElem_toArray, List.getElem_cons_zero, List.getElem_cons_succ, Act.put, List.setIfInBounds_toArray, List.set_cons_zero, List.set_cons_succ])
        refine wpAnyH_take (i := 9) (v := ?_) rfl (by kernel_rfl) (by kernel_rfl) (by kernel_rfl) (fun _ _ _ h => h) (Or.inl ⟨by rfl, ?_⟩) (by assumption) ?_
        rotate_left
        · intro w' hSw; (try dsimp only at hSw); (try simp only [List.getElem_toArray, List.getElem_cons_zero, List.getElem_cons_succ]); (try go_split_ands); go_simp; try with_reducible rfl
        (try simp only [List.getElem_toArray, List.getElem_cons_zero, List.getElem_cons_succ, Act.put, List.setIfInBounds_toArray, List.set_cons_zero, List.set_cons_succ])
        refine wpAnyH_ready (rs := [8]) (by kernel_rfl) (by simp) ?_
        refine AllReadyH.cons rfl (fun K hK => ?_) AllReadyH.nil
        go_simp
        (try go_split_ands)
        refine (VX.out wd0 hq0.out).mono ?_
        rintro e wa ⟨va, rfl, hva, gwa⟩
        have RA := Lib.hid (StB.of hva)
        obtain ⟨pa, ca, rfl⟩ := hva.form
        clear hva
        have QA : Hid (Below w9.heap.size w9 wa) := Lib.hid (next0 hq0.out gwa)
        have Gwa := Lib.hid gwa
        clear gwa
        refine hK.out _ _ (HK2.out _ QA.out) (fun hHeld => ?_)
        clear hK K
        (try simp only [List.getElem_toArray, List.getElem_cons_zero, List.getElem_cons_succ, Act.put, List.setIfInBounds_toArray, List.set_cons_zero, List.set_cons_succ])
        refine wpAnyH_ready (rs := [10]) (by kernel_rfl) (by simp) ?_
        refine AllReadyH.cons rfl (fun K hK => ?_) AllReadyH.nil
        go_simp
        (try go_split_ands)
        refine (BL.out wa _ QA.out (RA.out wa (Below.refl _ _))).mono ?_
        rintro e wb ⟨rfl, gwb⟩
        have QB : Hid (Below w9.heap.size w9 wb) := Lib.hid (next0 QA.out gwb)
        have Gwb := Lib.hid gwb
        clear gwb
        refine hK.out _ _ (HK2.out _ QB.out) (fun hHeld => ?_)
        clear hK K
        (try simp only [List.getElem_toArray, List.getElem_cons_zero, List.getElem_cons_succ, Act.put, List.setIfInBounds_toArray, List.set_cons_zero, List.set_cons_succ])
        refine wpAnyH_take (i := 11) (v := ?_) rfl (by kernel_rfl) (by kernel_rfl) (by kernel_rfl) (fun _ _ _ h => h) (Or.inl ⟨by rfl, ?_⟩) (by assumption) ?_
        rotate_left
        · intro w' hSw; (try dsimp only at hSw); (try simp only [List.getElem_toArray, List.getElem_cons_zero, List.getElem_cons_succ]); (try go_split_ands); go_simp; try with_reducible rfl
        (try simp only [List.getElem_toArray, List.getElem_cons_zero, List.getElem_cons_succ, Act.put, List.setIfInBounds_toArray, List.set_cons_zero, List.set_cons_succ])
        refine wpAnyH_take (i := 12) (v := ?_) rfl (by kernel_rfl) (by kernel_rfl) (by kernel_rfl) (fun _ _ _ h => h) (Or.inl ⟨by rfl, ?_⟩) (by assumption) ?_
        rotate_left
        · intro w' hSw; (try dsimp only at hSw); (try simp only [List.getElem_toArray, List.getElem_cons_zero, List.getElem_cons_succ]); (try go_split_ands); go_simp; try with_reducible rfl
        (try simp only [List.getElem_toArray, List.getElem_cons_zero, List.getElem_cons_succ, Act.put, List.setIfInBounds_toArray, List.set_cons_zero, List.set_cons_succ])
        refine wpAnyH_take (i := 13) (v := ?_) rfl (by kernel_rfl) (by kernel_rfl) (by kernel_rfl) (fun _ _ _ h => h) (Or.inl ⟨by rfl, ?_⟩) (by assumption) ?_
        rotate_left
        · intro w' hSw; (try dsimp only at hSw); (try simp only [List.getElem_toArray, List.getElem_cons_zero, List.getElem_cons_succ]); (try go_split_ands); go_simp; try with_reducible rfl
        (try simp only [List.getElem_toArray, List.getElem_cons_zero, List.getElem_cons_succ, Act.put, List.setIfInBounds_toArray, List.set_cons_zero, List.set_cons_succ])
        refine wpAnyH_take (i := 14) (v := ?_) rfl (by kernel_rfl) (by kernel_rfl) (by kernel_rfl) (fun _ _ _ h => h) (Or.inl ⟨by rfl, ?_⟩) (by assumption) ?_
        rotate_left
        · intro w' hSw; (try dsimp only at hSw); (try simp only [List.getElem_toArray, List.getElem_cons_zero, List.getElem_cons_succ]); (try go_split_ands); go_simp; try with_reducible rfl
        (try simp only [List.getElem_toArray, List.getElem_cons_zero, List.getElem_cons_succ, Act.put, List.setIfInBounds_toArray, List.set_cons_zero, List.set_cons_succ])
        refine wpAnyH_take (i := 16) (v := ?_) rfl (by kernel_rfl) (by kernel_rfl) (by kernel_rfl) (fun _ _ _ h => h) (Or.inl ⟨by rfl, ?_⟩) (by assumption) ?_
        rotate_left
        · intro w' hSw; (try dsimp only at hSw); (try simp only [List.getElem_toArray, List.getElem_cons_zero, List.getElem_cons_succ]); (try go_split_ands); go_simp; try with_reducible rfl
        (try simp only [List.getElem_toArray, List.getElem_cons_zero, List.getElem_cons_succ, Act.put, List.setIfInBounds_toArray, List.set_cons_zero, List.set_cons_succ])
        refine wpAnyH_ready (rs := [15]) (by kernel_rfl) (by simp) ?_
        refine AllReadyH.cons rfl (fun K hK => ?_) AllReadyH.nil
        go_simp
        (try go_split_ands)
        refine (VY.out wb QB.out).mono ?_
        rintro e wd ⟨vd, rfl, hvd, gwd⟩
        have RD := Lib.hid (StB.of hvd)
        obtain ⟨pd, cd, rfl⟩ := hvd.form
        clear hvd
        have QD : Hid (Below w9.heap.size w9 wd) := Lib.hid (next0 QB.out gwd)
        have Gwd := Lib.hid gwd
        clear gwd
        refine hK.out _ _ (HK2.out _ QD.out) (fun hHeld => ?_)
        clear hK K
        (try simp only [List.getElem_toArray, List.getElem_cons_zero, List.getElem_cons_succ, Act.put, List.setIfInBounds_toArray, List.set_cons_zero, List.set_cons_succ])
        refine wpAnyH_ready (rs := [17]) (by kernel_rfl) (by simp) ?_
        refine AllReadyH.cons rfl (fun K hK => ?_) AllReadyH.nil
        go_simp
        (try go_split_ands)
        refine (BL.out wd _ QD.out (RD.out wd (Below.refl _ _))).mono ?_
        rintro e wf ⟨rfl, gwf⟩
        have QF : Hid (Below w9.heap.size w9 wf) := Lib.hid (next0 QD.out gwf)
        have Gwf := Lib.hid gwf
        clear gwf
        refine hK.out _ _ (HK2.out _ QF.out) (fun hHeld => ?_)
        clear hK K
        (try simp only [List.getElem_toArray, List.getElem_cons_zero, List.getElem_cons_succ, Act.put, List.setIfInBounds_toArray, List.set_cons_zero, List.set_cons_succ])
        refine wpAnyH_take (i := 18) (v := ?_) rfl (by kernel_rfl) (by kernel_rfl) (by kernel_rfl) (fun _ _ _ h => h) (Or.inl ⟨by rfl, ?_⟩) (by assumption) ?_
        rotate_left
        · intro w' hSw; (try dsimp only at hSw); (try simp only [List.getElem_toArray, List.getElem_cons_zero, List.getElem_cons_succ]); (try go_split_ands); go_simp; try with_reducible rfl
        (try simp only [List.getElem_toArray, List.getElem_cons_zero, List.getElem_cons_succ, Act.put, List.setIfInBounds_toArray, List.set_cons_zero, List.set_cons_succ])
        refine wpAnyH_take (i := 19) (v := ?_) rfl (by kernel_rfl) (by kernel_rfl) (by kernel_rfl) (fun _ _ _ h => h) (Or.inl ⟨by rfl, ?_⟩) (by assumption) ?_
        rotate_left
        · intro w' hSw; (try dsimp only at hSw); (try simp only [List.getElem_toArray, List.getElem_cons_zero, List.getElem_cons_succ]); (try go_split_ands); go_simp; try with_reducible rfl
        (try simp only [List.getElem_toArray, List.getElem_cons_zero, List.getElem_cons_succ, Act.put, List.setIfInBounds_toArray, List.set_cons_zero, List.set_cons_succ])
        refine wpAnyH_take (i := 20) (v := ?_) rfl (by kernel_rfl) (by kernel_rfl) (by kernel_rfl) (fun _ _ _ h => h) (Or.inl ⟨by rfl, ?_⟩) (by assumption) ?_
        rotate_left
        · intro w' hSw; (try dsimp only at hSw); (try simp only [List.getElem_toArray, List.getElem_cons_zero, List.getElem_cons_succ]); (try go_split_ands); go_simp; try with_reducible rfl
        (try simp only [List.getElem_toArray, List.getElem_cons_zero, List.getElem_cons_succ, Act.put, List.setIfInBounds_toArray, List.set_cons_zero, List.set_cons_succ])
        refine wpAnyH_take (i := 21) (v := ?_) rfl (by kernel_rfl) (by kernel_rfl) (by kernel_rfl) (fun _ _ _ h => h) (Or.inl ⟨by rfl, ?_⟩) (by assumption) ?_
        rotate_left
        · intro w' hSw; (try dsimp only at hSw); (try simp only [List.getElem_toArray, List.getElem_cons_zero, List.getElem_cons_succ]); (try go_split_ands); go_simp; try with_reducible rfl
        (try simp only [List.getElem_toArray, List.getElem_cons_zero, List.getElem_cons_succ, Act.put, List.setIfInBounds_toArray, List.set_cons_zero, List.set_cons_succ])
        refine wpAnyH_take (i := 22) (v := ?_) rfl (by kernel_rfl) (by kernel_rfl) (by kernel_rfl) (fun _ _ _ h => h) (Or.inl ⟨by rfl, ?_⟩) (by assumption) ?_
        rotate_left
        · intro w' hSw; (try dsimp only at hSw); (try simp only [List.getElem_toArray, List.getElem_cons_zero, List.getElem_cons_succ]); (try go_split_ands); go_simp; try with_reducible rfl
        (try simp only [List.getElem_toArray, List.getElem_cons_zero, List.getElem_cons_succ, Act.put, List.setIfInBounds_toArray, List.set_cons_zero, List.set_cons_succ])
        refine wpAnyH_take (i := 23) (v := ?_) rfl (by kernel_rfl) (by kernel_rfl) (by kernel_rfl) (fun _ _ _ h => h) (Or.inl ⟨by rfl, ?_⟩) (by assumption) ?_
        rotate_left
        · intro w' hSw; (try dsimp only at hSw); (try simp only [List.getElem_toArray, List.getElem_cons_zero, List.getElem_cons_succ]); (try go_split_ands); go_simp; try with_reducible rfl
        (try simp only [List.getElem_toArray, List.getElem_cons_zero, List.getElem_cons_succ, Act.put, List.setIfInBounds_toArray, List.set_cons_zero, List.set_cons_succ])
        refine wpAnyH_take (i := 24) (v := ?_) rfl (by kernel_rfl) (by kernel_rfl) (by kernel_rfl) (fun _ _ _ h => h) (Or.inl ⟨by rfl, ?_⟩) (by assumption) ?_
        rotate_left
        · intro w' hSw; (try dsimp only at hSw); (try simp only [List.getElem_toArray, List.getElem_cons_zero, List.getElem_cons_succ]); (try go_split_ands); go_simp; try with_reducible rfl
        (try simp only [List.getElem_toArray, List.getElem_cons_zero, List.getElem_cons_succ, Act.put, List.setIfInBounds_toArray, List.set_cons_zero, List.set_cons_succ])
        refine wpAnyH_take (i := 25) (v := ?_) rfl (by kernel_rfl) (by kernel_rfl) (by kernel_rfl) (fun _ _ _ h => h) (Or.inl ⟨by rfl, ?_⟩) (by assumption) ?_
        rotate_left
        · intro w' hSw; (try dsimp only at hSw); (try simp only [List.getElem_toArray, List.getElem_cons_zero, List.getElem_cons_succ]); (try go_split_ands); go_simp; try with_reducible rfl
        (try simp only [List.getElem_toArray, List.getElem_cons_zero, List.getElem_cons_succ, Act.put, List.setIfInBounds_toArray, List.set_cons_zero, List.set_cons_succ])
        refine wpAnyH_take (i := 26) (v := ?_) rfl (by kernel_rfl) (by kernel_rfl) (by kernel_rfl) (fun _ _ _ h => h) (Or.inl ⟨by rfl, ?_⟩) (by assumption) ?_
        rotate_left
        · intro w' hSw; (try dsimp only at hSw); (try simp only [List.getElem_toArray, List.getElem_cons_zero, List.getElem_cons_succ]); (try go_split_ands); go_simp; try with_reducible rfl
        (try simp only [List.getElem_toArray, List.getElem_cons_zero, List.getElem_cons_succ, Act.put, List.setIfInBounds_toArray, List.set_cons_zero, List.set_cons_succ])
        refine wpAnyH_take (i := 27) (v := ?_) rfl (by kernel_rfl) (by kernel_rfl) (by kernel_rfl) (fun _ _ _ h => h) (Or.inl ⟨by rfl, ?_⟩) (by assumption) ?_
        rotate_left
        · intro w' hSw; (try dsimp only at hSw); (try simp only [List.getElem_toArray, List.getElem_cons_zero, List.getElem_cons_succ]); (try go_split_ands); go_simp; try with_reducible rfl
        (try simp only [List.getElem_toArray, List.getElem_cons_zero, List.getElem_cons_succ, Act.put, List.setIfInBounds_toArray, List.set_cons_zero, List.set_cons_succ])
        refine wpAnyH_take (i := 28) (v := ?_) rfl (by kernel_rfl) (by kernel_rfl) (by kernel_rfl) (fun _ _ _ h => h) (Or.inl ⟨by rfl, ?_⟩) (by assumption) ?_
        rotate_left
        · intro w' hSw; (try dsimp only at hSw); (try simp only [List.getElem_toArray, List.getElem_cons_zero, List.getElem_cons_succ]); (try go_split_ands); go_simp; try with_reducible rfl
        (try simp only [List.getElem_toArray, List.getElem_cons_zero, List.getElem_cons_succ, Act.put, List.setIfInBounds_toArray, List.set_cons_zero, List.set_cons_succ])
        refine wpAnyH_take (i := 29) (v := ?_) rfl (by kernel_rfl) (by kernel_rfl) (by kernel_rfl) (fun _ _ _ h => h) (Or.inl ⟨by rfl, ?_⟩) (by assumption) ?_
        rotate_left
        · intro w' hSw; (try dsimp only at hSw); (try simp only [List.getElem_toArray, List.getElem_cons_zero, List.getElem_cons_succ]); (try go_split_ands); go_simp; try with_reducible rfl
        (try simp only [List.getElem_toArray, List.getElem_cons_zero, List.getElem_cons_succ, Act.put, List.setIfInBounds_toArray, List.set_cons_zero, List.set_cons_succ])
        refine wpAnyH_ready (rs := [30]) (by kernel_rfl) (by simp) ?_
        refine AllReadyH.cons rfl (fun K hK => ?_) AllReadyH.nil
        go_simp
        (try go_split_ands)
        refine (MB.out wf).mono ?_
        rintro e wg ⟨vg, rfl, hvg, gwg⟩
        have RG := Lib.hid (StN.of hvg)
        obtain ⟨pg, cg, rfl⟩ := hvg.form
        clear hvg
        have QG : Hid (Below w9.heap.size w9 wg) := Lib.hid (next0 QF.out gwg)
        have Gwg := Lib.hid gwg
        clear gwg
        refine hK.out _ _ (HK2.out _ QG.out) (fun hHeld => ?_)
        clear hK K
        (try simp only [List.getElem_toArray, List.getElem_cons_zero, List.getElem_cons_succ, Act.put, List.setIfInBounds_toArray, List.set_cons_zero, List.set_cons_succ])
        refine wpAnyH_ready (rs := [31]) (by kernel_rfl) (by simp) ?_
        refine AllReadyH.cons rfl (fun K hK => ?_) AllReadyH.nil
        go_simp
        (try go_split_ands)
        refine (IL.out wg _ QG.out (RG.out wg (Below.refl _ _))).mono ?_
        rintro e wh ⟨rfl, gwh⟩
        have QH : Hid (Below w9.heap.size w9 wh) := Lib.hid (next0 QG.out gwh)
        have Gwh := Lib.hid gwh
        clear gwh
        refine hK.out _ _ (HK2.out _ QH.out) (fun hHeld => ?_)
        clear hK K
        (try simp only [List.getElem_toArray, List.getElem_cons_zero, List.getElem_cons_succ, Act.put, List.setIfInBounds_toArray, List.set_cons_zero, List.set_cons_succ])
        refine wpAnyH_take (i := 32) (v := ?_) rfl (by kernel_rfl) (by kernel_rfl) (by kernel_rfl) (fun _ _ _ h => h) (Or.inl ⟨by rfl, ?_⟩) (by assumption) ?_
        rotate_left
        · intro w' hSw; (try dsimp only at hSw); (try simp only [List.getElem_toArray, List.getElem_cons_zero, List.getElem_cons_succ]); (try go_split_ands); go_simp; try with_reducible rfl
        (try simp only [List.getElem_toArray, List.getElem_cons_zero, List.getElem_cons_succ, Act.put, List.setIfInBounds_toArray, List.set_cons_zero, List.set_cons_succ])
        refine wpAnyH_take (i := 33) (v := ?_) rfl (by kernel_rfl) (by kernel_rfl) (by kernel_rfl) (fun _ _ _ h => h) (Or.inl ⟨by rfl, ?_⟩) (by assumption) ?_
        rotate_left
        · intro w' hSw; (try dsimp only at hSw); (try simp only [List.getElem_toArray, List.getElem_cons_zero, List.getElem_cons_succ]); (try go_split_ands); go_simp; try with_reducible rfl
        (try simp only [List.getElem_toArray, List.getElem_cons_zero, List.getElem_cons_succ, Act.put, List.setIfInBounds_toArray, List.set_cons_zero, List.set_cons_succ])
        refine wpAnyH_done (by kernel_rfl) ?_ _
        go_wp2_with fail
        go_meet
        exact ⟨rfl, QH⟩
      case rest =>
      generalize hww : wc = wz at *
      clear hww
      obtain ⟨rfl, KZ⟩ := hcut
      have EZ := Lib.hid (E9.out.below KZ.out)
      have DZ := Lib.hid (next0 D9.out KZ.out)
      have SZ : Hid (w2.heap.size ≤ wz.heap.size) := Lib.hid (by have := J7.out.size; have := S79.out; have := KZ.out.size; have := Z5.out; omega)
      clear VX VY BL IL MB HK
      go_wp2_with fail
      go_roundw
      case rel => first | exact ⟨k + 1, _, _, _, by omega, by go_num, EZ, DZ, SZ⟩ | ((repeat (apply Exists.intro)); refine ⟨?_, rfl⟩; exact ⟨k + 1, _, _, _, by omega, by go_num, EZ, DZ, SZ⟩)
      case measure => simp [intOf] <;> omega
    · obtain rfl : k = LL := by omega
      have CA := Lib.hid (alive_any wo)
      have KE := Lib.hid (KW.out wo hD.out)
      go_wp2_with fail
      refine CA.out.mono ?_
      rintro e w9 ⟨rfl, g9⟩
      have DF := Lib.hid (next0 KE.out g9)
      clear g9 CA
      go_wp2_with fail
      go_ret
      exact ⟨rfl, DF.out⟩
end NetFr
end Go.Proofs.Ytmancliopfokgaa
