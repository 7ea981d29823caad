/- Texts laid together: NetEg; NetDa; NetSb; NetDz; NetQe. Their own heads stand before each. -/
import Derived.Test.YtgbbpliihglijaaGreatNetDe
import Derived.Test.YtgbbpliihglijaaGreatNetDv
import Derived.Test.YtgbbpliihglijaaGreatNetSa
import Derived.Test.YtgbbpliihglijaaGreatGBD
/- delta's engine as the laws see it: New, Set, Values, Value, Work, State. Conditions: a valid network. Made by gnEg.py. -/
namespace Go.Proofs.YtgbbpliihglijaaGreat
open Go Go.RowKit
namespace NetEg
open Kit TermM TermI TermH NetM NetN NetK NetA NetC NetI NetMk NetNu NetOk NetEv NetBo NetMb NetS NetDn NetDp NetEm NetLt NetDx NetDw NetDs NetDt NetDe
/-- A live engine of a network, set to bases and inputs; its blocks lie from B on. -/
def Eg (n : Nt) (B ge gb gv : Nat) (st ip : List Int) (wk : Int) (w : World) : Prop :=
  (∃ (cb : Nat) (R : List Value) (vf vm : Value), EngU n ge gb gv cb n.gates.length R (valsN st ip n) (memB st n.bases.length) (memB ip n.inputs.length) vf vm wk w) ∧ B ≤ ge ∧ B ≤ gb ∧ B ≤ gv
section
variable {n : Nt} {B ge gb gv : Nat} {st ip st0 ip0 : List Int} {wk : Int} {w w' : World}
theorem Eg.below (h : Eg n B ge gb gv st ip wk w) (q : Below w.heap.size w w') : Eg n B ge gb gv st ip wk w' := by
  obtain ⟨⟨cb, R, vf, vm, h1⟩, h2⟩ := h
  exact ⟨⟨cb, R, vf, vm, EngU.below h1 q⟩, h2⟩
theorem Eg.self (h : Eg n B ge gb gv st ip wk w) : w.cell? ⟨ge, 0, none⟩ = some (.pointer (some ⟨ge, 0, none⟩)) := by
  obtain ⟨⟨cb, R, vf, vm, h1⟩, _⟩ := h
  exact h1.eng.self
theorem Eg.row (h : Eg n B ge gb gv st ip wk w) (hm : n.gates.length ≤ 1000000) : RowE KB (· < w.heap.size) w (valsN st ip n) (.slice (some ⟨gv, 0, none⟩) (valsN st ip n).length n.gates.length) := by
  obtain ⟨⟨cb, R, vf, vm, h1⟩, _⟩ := h
  refine ⟨_, _, rfl, (fun e => by cases e), by rw [h1.eng.lenV]; exact Nat.le_refl _, by unfold maxLen; omega, fun _ _ => trivial, fun _ => ⟨gv, 0, rfl, h1.ltv, fun i x hx j u hu => ?_⟩⟩
  have hj : j < [Value.bool x].length := (List.getElem?_eq_some_iff.1 hu).1
  obtain rfl : j = 0 := by simp at hj; omega
  have e : Value.bool x = u := Option.some.inj hu
  have e2 : 0 + i * KB.sz + 0 = i := by show 0 + i * 1 + 0 = i; omega
  rw [← e, e2]
  exact h1.eng.val i x hx
theorem values_eg (hm : n.gates.length ≤ 1000000) (h : Eg n B ge gb gv st ip wk w) : Calls Tryz.prog 14 #[.pointer (some ⟨ge, 0, none⟩)] w (BlE (valsN st ip n) w) := by
  obtain ⟨⟨cb, R, vf, vm, h1⟩, h2⟩ := id h
  exact NetDv.values_live ge _ w _ _ _ h.self (by rw [h1.eng.lenV]; exact h1.eng.values) (h.row hm) (fun _ hb => hb) (by rw [h1.eng.lenV]; exact hm)
theorem value_eg (g : Int) (hm : n.gates.length ≤ 1000000) (h : Eg n B ge gb gv st ip wk w) : Calls Tryz.prog 16 #[.pointer (some ⟨ge, 0, none⟩), .int .i64 g] w fun e w' => e = .returned (.bool (valB (valsN st ip n) g)) ∧ w = w' := by
  obtain ⟨⟨cb, R, vf, vm, h1⟩, h2⟩ := id h
  exact value_live ge _ g w _ _ _ h.self (by rw [h1.eng.lenV]; exact h1.eng.values) (h.row hm) (fun _ hb => hb)
theorem work_eg (h : Eg n B ge gb gv st ip wk w) : Calls Tryz.prog 18 #[.pointer (some ⟨ge, 0, none⟩)] w fun e w' => e = .returned (.int .i64 wk) ∧ w = w' := by
  obtain ⟨⟨cb, R, vf, vm, h1⟩, h2⟩ := id h
  exact work_live ge wk w h.self h1.f5
theorem state_eg (hb : n.bases.length ≤ 1000000) (hi : n.inputs.length ≤ 1000000) (b1 : numsB st n.bases.length = true ∧ numsB ip n.inputs.length = true) (h : Eg n B ge gb gv st ip wk w) : Calls Tryz.prog 11 #[.pointer (some ⟨ge, 0, none⟩)] w (StaE st ip w) := by
  obtain ⟨⟨cb, R, vf, vm, h1⟩, h2⟩ := h
  have := state_any n _ _ _ w ge gb gv cb _ R vf vm wk (by rw [memb_len]; exact hb) (by rw [memb_len]; exact hi) h1
  rw [of_members b1.1, of_members b1.2] at this
  exact this
theorem set_eg {f : Tm → Bool} (hck : chkN f n = 0) (hb : n.bases.length ≤ 1000000) (hi : n.inputs.length ≤ 1000000) (b1 : numsB st n.bases.length = true ∧ numsB ip n.inputs.length = true) {vs vi : Value} (h : Eg n B ge gb gv st0 ip0 wk w)
    (hs : RowE KN (· < w.heap.size) w st vs) (hip : RowE KN (· < w.heap.size) w ip vi) : Calls Tryz.prog 9 #[.pointer (some ⟨ge, 0, none⟩), vs, vi] w fun e w' =>
      e = .returned (.tuple #[.int .i64 (chN (valsN st0 ip0 n) (valsN st ip n) n.gates.length : Nat), .int .i64 0]) ∧ Eg n B ge gb gv st ip (wkN (valsN st0 ip0 n) (valsN st ip n) n n.gates.length : Nat) w' ∧ Lt (ex3 ge gb gv) w w' := by
  obtain ⟨⟨cb, R, vf, vm, h1⟩, h2⟩ := h
  refine (set_any n st0 ip0 st ip _ _ w ge gb gv cb _ R vf vm vs vi wk w.heap.size hck hb hi (memb_len _ _) (memb_len _ _) (Nat.le_refl _) hs hip b1 h1).mono ?_
  rintro e w' ⟨rfl, h3⟩
  obtain ⟨vf', vm', h4⟩ := h3.ex
  exact ⟨rfl, ⟨⟨cb, R, vf', vm', h4⟩, h2⟩, h3.lt⟩
theorem new_eg (h : Nh) (k : NetIn (· < w.heap.size) w n h) (hz : SzN n) (hck : chkN groundB n = 0) : Calls Tryz.prog 7 #[.agg (netC n h)] w fun e w' =>
      ∃ ge gb gv, e = .returned (.tuple #[.pointer (some ⟨ge, 0, none⟩), .int .i64 0]) ∧ Eg n w.heap.size ge gb gv [] [] 0 w' ∧ Below w.heap.size w w' := by
  refine (new_any n h w.heap.size w (Nat.le_refl _) k hz hck).mono ?_
  rintro e w' ⟨ge, gb, gv, cb, R, vf, vm, rfl, h1, h2, h3⟩
  exact ⟨ge, gb, gv, rfl, ⟨⟨cb, R, vf, vm, h1⟩, h2⟩, h3⟩
/-- A set engine touches its own blocks only. -/
theorem Eg.lt (h : Eg n B ge gb gv st ip wk w) {a b : World} (hB : B ≤ a.heap.size) (q : Lt (ex3 ge gb gv) a b) : Below B a b := by
  obtain ⟨_, h1, h2, h3⟩ := h
  exact q.toBelow hB fun i e => by rcases e with rfl | rfl | rfl <;> assumption
end
end NetEg
end Go.Proofs.YtgbbpliihglijaaGreat
/- law24's alive: the examples hold. No conditions. Made by gnDa.py. -/
namespace Go.Proofs.YtgbbpliihglijaaGreat
open Go Go.RowKit
namespace NetDa
open Kit TermM TermI TermH NetM NetN NetK NetA NetC NetI NetMk NetNu NetOk NetEv NetBo NetMb NetS NetDn NetDp NetEm NetLt NetDx NetDw NetDs NetDt NetDe NetEg NetSa
theorem bools_eq (S : List Bool) (w : World) (v v' : Value) (ha : RowE KB (· < w.heap.size) w S v) (hl : RowE KB (· < w.heap.size) w S v') :
    Calls Tryz.prog 13 #[v, v'] w fun e w' => e = .returned (.bool true) ∧ Below w.heap.size w w' :=
  (NetBz.bools_any S S _ _ w v v' ha hl (fun _ h => h) (fun _ h => h)).mono fun _ _ h => ⟨by rw [h.1, decide_eq_true rfl], h.2⟩
theorem ints_eq (S : List Int) (w : World) (v v' : Value) (ha : RowE KN (· < w.heap.size) w S v) (hl : RowE KN (· < w.heap.size) w S v') :
    Calls Tryz.prog 20 #[v, v'] w fun e w' => e = .returned (.bool true) ∧ Below w.heap.size w w' :=
  (NetZ.ints_any S S _ _ w v v' ha hl (fun _ h => h) (fun _ h => h)).mono fun _ _ h => ⟨by rw [h.1, decide_eq_true rfl], h.2⟩
theorem lit_n (w : World) {g : Nat} (hg : w.heap.size = g) (L : List Int) (cs : Array Value) (hc : cs.toList = L.flatMap KN.cells) (hm : L.length ≤ maxLen) (hi : ∀ x ∈ L, I64 x) : RowE KN (· < (w.alloc (.cells cs 3)).heap.size) (w.alloc (.cells cs 3)) L (.slice (some ⟨g, 0, none⟩) L.length L.length) :=
  hg ▸ row_has hc (Has.new _ _ _) (by simp) hm hi
theorem lit_b (w : World) {g : Nat} (hg : w.heap.size = g) (L : List Bool) (cs : Array Value) (hc : cs.toList = L.flatMap KB.cells) (hm : L.length ≤ maxLen) : RowE KB (· < (w.alloc (.cells cs 4)).heap.size) (w.alloc (.cells cs 4)) L (.slice (some ⟨g, 0, none⟩) L.length L.length) :=
  hg ▸ row_has hc (Has.new _ _ _) (by simp) hm (fun _ _ => trivial)
theorem i64_0 : I64 0 := by unfold I64; omega
theorem v0 : valsN [] [] smpN = [false, true, false] := by kernel_rfl
theorem v1 : valsN [0] [] smpN = [true, false, false] := by kernel_rfl
theorem v2 : valsN [0] [0] smpN = [true, false, false] := by kernel_rfl
theorem c1 : chN (valsN [] [] smpN) (valsN [0] [] smpN) smpN.gates.length = 2 := by kernel_rfl
theorem k1 : wkN (valsN [] [] smpN) (valsN [0] [] smpN) smpN smpN.gates.length = 2 := by kernel_rfl
theorem c2 : chN (valsN [0] [] smpN) (valsN [0] [0] smpN) smpN.gates.length = 0 := by kernel_rfl
theorem k2 : wkN (valsN [0] [] smpN) (valsN [0] [0] smpN) smpN smpN.gates.length = 0 := by kernel_rfl
theorem b1 : numsB [0] smpN.bases.length = true ∧ numsB [] smpN.inputs.length = true := ⟨by kernel_rfl, by kernel_rfl⟩
theorem b2 : numsB [0] smpN.bases.length = true ∧ numsB [0] smpN.inputs.length = true := ⟨by kernel_rfl, by kernel_rfl⟩
theorem g0 : valB (valsN [0] [0] smpN) 0 = true := by rw [v2]; decide
theorem g1 : valB (valsN [0] [0] smpN) 1 = false := by rw [v2]; decide
theorem g3 : valB (valsN [0] [0] smpN) 3 = false := by rw [v2]; decide
theorem s3 : smpN.gates.length ≤ 1000000 := by decide
theorem sb : smpN.bases.length ≤ 1000000 := by decide
theorem si : smpN.inputs.length ≤ 1000000 := by decide
section
variable {B ge gb gv : Nat} {wk : Int} {w : World}
theorem set1 (h : Eg smpN B ge gb gv [] [] wk w) : Calls Tryz.prog 9 #[.pointer (some ⟨ge, 0, none⟩), .slice (some ⟨w.heap.size, 0, none⟩) 1 1, .slice none 0 0] (w.alloc (.cells #[.int .i64 0] 3)) fun e w' => e = .returned (.tuple #[.int .i64 2, .int .i64 0]) ∧ Eg smpN B ge gb gv [0] [] 2 w' ∧ Lt (ex3 ge gb gv) w w' := by
  have := set_eg smp_ok sb si b1 (h.below (below_alloc _ _)) (lit_n w rfl [0] #[.int .i64 0] rfl (by decide) (fun x hx => by rw [List.mem_singleton.1 hx]; exact i64_0)) (RowE.nil _ _)
  rw [c1, k1] at this
  exact this.mono fun e w' h => ⟨h.1, h.2.1, (Lt.of (below_alloc _ _)).trans h.2.2⟩
theorem set2 (h : Eg smpN B ge gb gv [0] [] wk w) : Calls Tryz.prog 9 #[.pointer (some ⟨ge, 0, none⟩), .slice (some ⟨w.heap.size, 0, none⟩) 1 1, .slice (some ⟨w.heap.size + 1, 0, none⟩) 1 1] ((w.alloc (.cells #[.int .i64 0] 3)).alloc (.cells #[.int .i64 0] 3)) fun e w' => e = .returned (.tuple #[.int .i64 0, .int .i64 0]) ∧ Eg smpN B ge gb gv [0] [0] 0 w' ∧ Lt (ex3 ge gb gv) w w' := by
  have l0 := lit_n w rfl [0] #[.int .i64 0] rfl (by decide) (fun x hx => by rw [List.mem_singleton.1 hx]; exact i64_0)
  have l1 := lit_n (w.alloc (.cells #[.int .i64 0] 3)) (g := w.heap.size + 1) (by simp) [0] #[.int .i64 0] rfl (by decide) (fun x hx => by rw [List.mem_singleton.1 hx]; exact i64_0)
  have := set_eg smp_ok sb si b2 ((h.below (below_alloc _ _)).below (below_alloc _ (.cells #[.int .i64 0] 3))) ((l0.keep fun b o (hb : b < _) => (below_alloc _ _).cell (p := ⟨b, o, none⟩) hb).wide fun _ hb => Nat.lt_of_lt_of_le hb (below_alloc _ _).size) l1
  rw [c2, k2] at this
  exact this.mono fun e w' h => ⟨h.1, h.2.1, ((Lt.of (below_alloc _ _)).trans (Lt.of (below_alloc _ _))).trans h.2.2⟩
end
set_option maxRecDepth 100000 in
set_option maxHeartbeats 6400000 in
theorem alive_any : ∀ w, Calls Tryz.prog 6 #[] w fun e w' => e = .returned (.bool true) ∧ Below w.heap.size w w' := by
  intro w
  have S0 := Lib.hid (sample_any w)
  go_enter Tryz.func6, Tryz.ntmps6
  go_wp2_with fail
  refine S0.out.mono ?_
  rintro e w1 ⟨h, rfl, hn, b1⟩
  have N1 := Lib.hid (new_eg h (hn.wide fun _ hb => hb.2) smp_sz smp_ok)
  have D1 := Lib.hid b1
  clear hn b1 S0
  go_wp2_with fail
  refine N1.out.mono ?_
  rintro e w2 ⟨ge, gb, gv, rfl, hE, g2⟩
  have E2 := Lib.hid hE
  have D2 := Lib.hid (next0 D1.out g2)
  have W12 : Hid (w1.heap.size ≤ w2.heap.size) := Lib.hid g2.size
  clear hE g2 N1
  have V2 := Lib.hid (values_eg s3 E2.out)
  go_wp2_with fail
  refine V2.out.mono ?_
  rintro e w3 ⟨v3, rfl, hv3, g3⟩
  rw [v0] at hv3
  have E3 := Lib.hid (E2.out.below g3)
  have D3 := Lib.hid (next0 D2.out g3)
  have W13 : Hid (w1.heap.size ≤ w3.heap.size) := Lib.hid (by have := g3.size; have := W12.out; omega)
  have R3 := Lib.hid ((hv3.keep (w' := w3.alloc (.cells #[.bool false, .bool true, .bool false] 4)) fun b o hb => (below_alloc _ _).cell (p := ⟨b, o, none⟩) hb.2).wide (ok' := (· < (w3.alloc (.cells #[.bool false, .bool true, .bool false] 4)).heap.size)) fun _ hb => Nat.lt_of_lt_of_le hb.2 (below_alloc _ _).size)
  obtain ⟨p3, c3, rfl⟩ := hv3.form
  have C4 := Lib.hid (bools_eq [false, true, false] _ _ _ R3.out (lit_b w3 rfl [false, true, false] #[.bool false, .bool true, .bool false] rfl (by decide)))
  clear hv3 g3 V2 E2
  go_wp2_with fail
  refine C4.out.mono ?_
  rintro e w4 ⟨rfl, g4⟩
  have E4 := Lib.hid ((E3.out.below (below_alloc _ _)).below g4)
  have D4 := Lib.hid (next0 D3.out (next0 (below_alloc _ _) g4))
  have W14 : Hid (w1.heap.size ≤ w4.heap.size ∧ w.heap.size ≤ w1.heap.size) := Lib.hid ⟨by have := (next0 (below_alloc w3 _) g4).size; have := W13.out; omega, D1.out.size⟩
  clear g4 C4 R3 E3
  have C5 := Lib.hid (set1 E4.out)
  go_wp2_with fail
  refine C5.out.mono ?_
  rintro e w5 ⟨rfl, hE, hL⟩
  have E5 := Lib.hid hE
  have D5 := Lib.hid (D4.out.trans ((hE.lt W14.out.1 hL).mono W14.out.2))
  have S5 := Lib.hid hL.size
  clear hE hL C5
  have C6 := Lib.hid (work_eg E5.out)
  go_wp2_with fail
  refine C6.out.mono ?_
  rintro e w6 ⟨rfl, rfl⟩
  clear C6
  have C7 := Lib.hid (set2 E5.out)
  go_wp2_with fail
  refine C7.out.mono ?_
  rintro e w7 ⟨rfl, hE, hL⟩
  have E7 := Lib.hid hE
  have D7 := Lib.hid (D5.out.trans ((hE.lt (Nat.le_trans W14.out.1 S5.out) hL).mono W14.out.2))
  clear hE hL C7
  have C8 := Lib.hid (state_eg sb si b2 E7.out)
  go_wp2_with fail
  refine C8.out.mono ?_
  rintro e w8 ⟨u8, v8, rfl, hu, hv, g8⟩
  have E8 := Lib.hid (E7.out.below g8)
  have D8 := Lib.hid (next0 D7.out g8)
  have U8 := Lib.hid hu
  have V8 := Lib.hid hv
  obtain ⟨p8, d8, rfl⟩ := (hu w8 (Below.refl _ _)).form
  obtain ⟨q8, f8, rfl⟩ := (hv w8 (Below.refl _ _)).form
  clear hu hv g8 C8
  have C9 := Lib.hid (work_eg E8.out)
  go_wp2_with fail
  refine C9.out.mono ?_
  rintro e w9 ⟨rfl, rfl⟩
  clear C9
  have C9 := Lib.hid (ints_eq [0] _ _ _ (U8.out (w8.alloc (.cells #[.int .i64 0] 3)) (below_alloc _ _)) (lit_n w8 rfl [0] #[.int .i64 0] rfl (by decide) (fun x hx => by rw [List.mem_singleton.1 hx]; exact i64_0)))
  go_wp2_with fail
  refine C9.out.mono ?_
  rintro e w9 ⟨rfl, g9⟩
  have J9 : Hid (Below w8.heap.size w8 w9) := Lib.hid (next0 (below_alloc _ _) g9)
  have E9 := Lib.hid (E8.out.below J9.out)
  have D9 := Lib.hid (next0 D8.out J9.out)
  have V9 := Lib.hid (V8.out.step J9.out)
  clear g9 C9
  have C9 := Lib.hid (ints_eq [0] _ _ _ (V9.out (w9.alloc (.cells #[.int .i64 0] 3)) (below_alloc _ _)) (lit_n w9 rfl [0] #[.int .i64 0] rfl (by decide) (fun x hx => by rw [List.mem_singleton.1 hx]; exact i64_0)))
  go_wp2_with fail
  refine C9.out.mono ?_
  rintro e wa ⟨rfl, ga⟩
  have JA : Hid (Below w9.heap.size w9 wa) := Lib.hid (next0 (below_alloc _ _) ga)
  have EA := Lib.hid (E9.out.below JA.out)
  have DA := Lib.hid (next0 D9.out JA.out)
  clear ga C9
  have X0 := Lib.hid (value_eg 0 s3 EA.out)
  have X1 := Lib.hid (value_eg 1 s3 EA.out)
  have X3 := Lib.hid (value_eg 3 s3 EA.out)
  rw [g0] at X0
  rw [g1] at X1
  rw [g3] at X3
  go_wp2_with fail
  refine X0.out.mono ?_
  rintro e wb ⟨rfl, rfl⟩
  clear X0
  go_wp2_with fail
  refine X1.out.mono ?_
  rintro e wb ⟨rfl, rfl⟩
  clear X1
  go_wp2_with fail
  refine X3.out.mono ?_
  rintro e wb ⟨rfl, rfl⟩
  clear X3
  go_wp2_with fail
  go_ret
  exact ⟨rfl, DA.out⟩
end NetDa
end Go.Proofs.YtgbbpliihglijaaGreat
/- delta's Set with bases that are no state: ErrState, nothing changes; plain facts on what an update changes and evaluates. Conditions: a live engine. Made by gnSb.py. -/
namespace Go.Proofs.YtgbbpliihglijaaGreat
open Go Go.RowKit
namespace NetSb
open Kit TermM TermI TermH NetM NetN NetK NetA NetC NetI NetMk NetNu NetOk NetEv NetBo NetMb NetVv NetS NetDn NetDp NetEm NetLt NetDx NetDw NetDs NetDt NetDe NetEg
theorem cntp_zero {p : Nat → Bool} (h : ∀ j, p j = false) (i : Nat) : cntP p i = 0 := by
  unfold cntP
  rw [List.filter_eq_nil_iff.2 fun a _ => by rw [h a]; decide]
  rfl
theorem dif_same (A : List Bool) (x : Int) : dif A A x = false := by
  unfold dif
  cases vAt A x <;> rfl
theorem ch_same (A : List Bool) (i : Nat) : chN A A i = 0 := cntp_zero (fun j => dif_same A j) i
theorem rds_same (A : List Bool) (g : Gt) : rdsB A A g = false := by
  unfold rdsB
  rw [List.any_eq_false]
  intro x _
  rw [dif_same]
  decide
theorem wk_same (A : List Bool) (n : Nt) (i : Nat) : wkN A A n i = 0 := cntp_zero (fun j => by
  unfold rdAt
  split
  · exact rds_same A _
  · rfl) i
theorem dif_comm (A B : List Bool) (x : Int) : dif A B x = dif B A x := by
  unfold dif
  cases vAt A x <;> cases vAt B x <;> rfl
theorem ch_comm (A B : List Bool) (i : Nat) : chN A B i = chN B A i := by
  unfold chN
  congr 1
  funext j
  exact dif_comm A B j
theorem rds_comm (A B : List Bool) (g : Gt) : rdsB A B g = rdsB B A g := by
  unfold rdsB
  congr 1
  funext x
  exact dif_comm A B x
theorem wk_comm (A B : List Bool) (n : Nt) (i : Nat) : wkN A B n i = wkN B A n i := by
  unfold wkN
  congr 1
  funext j
  unfold rdAt
  split
  · exact rds_comm A B _
  · rfl
set_option maxRecDepth 100000 in
set_option maxHeartbeats 3200000 in
theorem set_bad {n : Nt} {B ge gb gv : Nat} {st st0 ip0 : List Int} {wk : Int} {w : World} {vs : Value} {p' : Option Addr} {m' c' : Nat} (h : Eg n B ge gb gv st0 ip0 wk w) (hb1 : numsB st n.bases.length = false) (hs : RowE KN (· < w.heap.size) w st vs) :
    Calls Tryz.prog 9 #[.pointer (some ⟨ge, 0, none⟩), vs, .slice p' m' c'] w fun e w' => e = .returned (.tuple #[.int .i64 0, .int .i64 14]) ∧ Below w.heap.size w w' := by
  obtain ⟨⟨cb, R, vf, vm, EU⟩, _⟩ := h
  obtain ⟨psl, csl, rfl⟩ := hs.form
  obtain ⟨pf, cf, rfl⟩ := EU.rf.form
  obtain ⟨pm, cm, rfl⟩ := EU.rm.form
  have VS0 := ascb_any st n.bases.length w.heap.size w _ (Nat.le_refl _) hs
  rw [hb1] at VS0
  have VS := Lib.hid VS0
  have RT := Lib.hid (returned_live ge w EU.eng.self)
  have x3 := EU.f3
  have x4 := EU.f4
  rw [memb_len] at x3 x4
  clear hs EU VS0 hb1
  go_enter Tryz.func9, Tryz.ntmps9
  go_wp2_with fail
  refine RT.out.mono ?_
  rintro e w2 ⟨rfl, rfl⟩
  go_wp2_with fail
  refine VS.out.mono ?_
  rintro e w3 ⟨rfl, g3⟩
  have D3 := Lib.hid g3
  clear g3 x3 x4
  go_wp2_with fail
  refine bodyPost_ret (v := .tuple #[.int .i64 0, .int .i64 14]) (by simp [results, Tryz.results9, go_sem]) rfl ?_
  exact ⟨rfl, D3.out⟩
end NetSb
end Go.Proofs.YtgbbpliihglijaaGreat
/- delta's State whose answers lie in new memory; rows that a set engine leaves as they are; what Set answers. Conditions: a live engine of a valid network. Made by gnDz.py. -/
namespace Go.Proofs.YtgbbpliihglijaaGreat
open Go Go.RowKit
namespace NetDz
open Kit TermM TermI TermH NetM NetN NetK NetA NetC NetI NetMk NetNu NetOk NetEv NetBo NetMb NetVv NetS NetDn NetDp NetEm NetLt NetDx NetDw NetDs NetDt NetDe NetEg NetSb
/-- A row of numbers in blocks from s on, in every later world. -/
def StM (s : Nat) (L : List Int) (w : World) (v : Value) : Prop := ∀ z, Below w.heap.size w z → RowE KN (fun b => s ≤ b ∧ b < w.heap.size) z L v
theorem StM.fresh {w0 wp wa : World} {L : List Int} {v : Value} (q : Below w0.heap.size w0 wp) (h : RowE KN (fun b => wp.heap.size ≤ b ∧ b < wa.heap.size) wa L v) : StM w0.heap.size L wa v := fun _ g => (h.keep fun b o hb => g.cell (p := ⟨b, o, none⟩) hb.2).wide fun _ hb => ⟨Nat.le_trans q.size hb.1, hb.2⟩
theorem StM.step {s : Nat} {L : List Int} {w w' : World} {v : Value} (h : StM s L w v) (q : Below w.heap.size w w') : StM s L w' v := fun z k => (h z (q.trans (k.mono q.size))).wide fun _ hb => ⟨hb.1, Nat.lt_of_lt_of_le hb.2 q.size⟩
theorem StM.form {s : Nat} {L : List Int} {w : World} {v : Value} (h : StM s L w v) : ∃ p c, v = .slice p L.length c := (h w (Below.refl _ _)).form
/-- State's answer. -/
def StaF (S T : List Int) (w : World) (e : Ending) (w' : World) : Prop := ∃ u v, e = .returned (.tuple #[u, v]) ∧ StM w.heap.size S w' u ∧ StM w.heap.size T w' v ∧ Below w.heap.size w w'
set_option maxRecDepth 100000 in
set_option maxHeartbeats 6400000 in
theorem state_low (n : Nt) (A F M : List Bool) (w : World) (ge gb gv cb cv : Nat) (R : List Value) (vf vm : Value) (wk : Int) (hF : F.length ≤ 1000000) (hM : M.length ≤ 1000000)
    (EU : EngU n ge gb gv cb cv R A F M vf vm wk w) :
    Calls Tryz.prog 11 #[.pointer (some ⟨ge, 0, none⟩)] w (StaF (numsOf F) (numsOf M) w) := by
  obtain ⟨pf, cf, rfl⟩ := EU.rf.form
  obtain ⟨pm, cm, rfl⟩ := EU.rm.form
  have RT := Lib.hid (returned_live ge w EU.eng.self)
  have CE := Lib.hid (fun w' (q : Below w.heap.size w w') => show w'.cell? ⟨ge, 3, none⟩ = some (.slice pf F.length cf) ∧ w'.cell? ⟨ge, 4, none⟩ = some (.slice pm M.length cm) from ⟨(EngU.below EU q).f3, (EngU.below EU q).f4⟩)
  have N1 := Lib.hid (fun w' (q : Below w.heap.size w w') => numbers_any F _ w' _ (EngU.below EU q).rf (fun _ h => h.1) hF)
  have N2 := Lib.hid (fun w' (q : Below w.heap.size w w') => numbers_any M _ w' _ (EngU.below EU q).rm (fun _ h => h.1) hM)
  clear EU
  go_enter Tryz.func11, Tryz.ntmps11
  go_wp2_with fail
  refine RT.out.mono ?_
  rintro e w2 ⟨rfl, rfl⟩
  obtain ⟨x3, x4⟩ := CE.out w (Below.refl _ _)
  go_upto_region 3 with fail
  clear x3 x4
  go_cut [2, 3] (fun s t wx => Hid (StM w.heap.size (numsOf F) wx s) ∧ Hid (StM w.heap.size (numsOf M) wx t) ∧ Hid (Below w.heap.size w wx))
  case first =>
    have hq0 : Hid (Below w.heap.size w w.drew) := Lib.hid (Below.refl _ _).drew
    obtain ⟨x3, x4⟩ := CE.out _ hq0.out
    go_region_held3 (fun w' => w'.cell? ⟨ge, 3, none⟩ = some (.slice pf F.length cf) ∧ w'.cell? ⟨ge, 4, none⟩ = some (.slice pm M.length cm))
      (first | (with_reducible assumption) | (with_reducible exact ⟨‹_›, ‹_›⟩) | (with_reducible refine CE.out _ ?_; repeat (first | (with_reducible exact Hid.out (by assumption)) | (with_reducible exact Below.refl _ _) | (with_reducible refine Below.drew ?_))))
      (first
        | (go_at_call 31; (try go_split_ands); (with_reducible refine (N1.out _ (by repeat (first | (with_reducible exact Hid.out (by assumption)) | (with_reducible exact Below.refl _ _) | (with_reducible refine Below.drew ?_)))).mono ?_); rintro e wa ⟨ua, rfl, ra, qa⟩; have RA := Lib.hid (StM.fresh (w0 := w) (by repeat (first | (with_reducible exact Hid.out (by assumption)) | (with_reducible exact Below.refl _ _) | (with_reducible refine Below.drew ?_))) ra); have QA := Lib.hid qa; (have QG : Hid (Below w.heap.size w wa) := Lib.hid (by (refine next0 ?_ qa; repeat (first | (with_reducible exact Hid.out (by assumption)) | (with_reducible exact Below.refl _ _) | (with_reducible refine Below.drew ?_))))); clear ra qa; obtain ⟨x3, x4⟩ := CE.out _ QG.out)
        | (go_at_call 31; (try go_split_ands); (with_reducible refine (N2.out _ (by repeat (first | (with_reducible exact Hid.out (by assumption)) | (with_reducible exact Below.refl _ _) | (with_reducible refine Below.drew ?_)))).mono ?_); rintro e wb ⟨ub, rfl, rb, qb⟩; have RB := Lib.hid (StM.fresh (w0 := w) (by repeat (first | (with_reducible exact Hid.out (by assumption)) | (with_reducible exact Below.refl _ _) | (with_reducible refine Below.drew ?_))) rb); have QB := Lib.hid qb; (have QH : Hid (Below w.heap.size w wb) := Lib.hid (by (refine next0 ?_ qb; repeat (first | (with_reducible exact Hid.out (by assumption)) | (with_reducible exact Below.refl _ _) | (with_reducible refine Below.drew ?_))))); clear rb qb; obtain ⟨x3, x4⟩ := CE.out _ QH.out))
    all_goals
      go_wp2_with fail
      go_meet
      refine ⟨?_, ?_, ?_⟩
      · first | (with_reducible exact RA) | exact Lib.hid (RA.out.step (by (repeat (with_reducible refine Below.drew ?_)); first | (with_reducible exact Below.refl _ _) | (first | (exact QB.out) | (refine undrew ?_; (first | (exact QB.out) | (refine undrew ?_; (first | (exact QB.out) | (refine undrew ?_; (first | (exact QB.out) | (refine undrew ?_; (first | (exact QB.out) | (refine undrew ?_; (first | (exact QB.out) | (refine undrew ?_; (first | (exact QB.out) | (refine undrew ?_; (first | (exact QB.out) | (refine undrew ?_; (first | (exact QB.out) | (refine undrew ?_; (first | (exact QB.out) | (refine undrew ?_; (first | (exact QB.out) | (refine undrew ?_; (first | (exact QB.out) | (refine undrew ?_; (first | (exact QB.out) | (refine undrew ?_; (first | (exact QB.out) | (refine undrew ?_; (first | (exact QB.out))))))))))))))))))))))))))))))))
      · first | (with_reducible exact RB) | exact Lib.hid (RB.out.step (by (repeat (with_reducible refine Below.drew ?_)); first | (with_reducible exact Below.refl _ _) | (first | (exact QA.out) | (refine undrew ?_; (first | (exact QA.out) | (refine undrew ?_; (first | (exact QA.out) | (refine undrew ?_; (first | (exact QA.out) | (refine undrew ?_; (first | (exact QA.out) | (refine undrew ?_; (first | (exact QA.out) | (refine undrew ?_; (first | (exact QA.out) | (refine undrew ?_; (first | (exact QA.out) | (refine undrew ?_; (first | (exact QA.out) | (refine undrew ?_; (first | (exact QA.out) | (refine undrew ?_; (first | (exact QA.out) | (refine undrew ?_; (first | (exact QA.out) | (refine undrew ?_; (first | (exact QA.out) | (refine undrew ?_; (first | (exact QA.out) | (refine undrew ?_; (first | (exact QA.out))))))))))))))))))))))))))))))))
      · exact Lib.hid (by repeat (first | (with_reducible exact Hid.out (by assumption)) | (with_reducible exact Below.refl _ _) | (with_reducible refine Below.drew ?_)))
  case rest =>
  generalize hww : wc = w7 at *
  clear hww
  obtain ⟨r1, r2, q7⟩ := hcut
  obtain ⟨p1, c1, rfl⟩ := (r1.out _ (Below.refl _ _)).form
  obtain ⟨p2, c2, rfl⟩ := (r2.out _ (Below.refl _ _)).form
  go_wp2_with fail
  refine bodyPost_ret (v := .tuple #[.slice p1 (numsOf F).length c1, .slice p2 (numsOf M).length c2]) (by simp [results, Tryz.results11, go_sem]) rfl ?_
  exact ⟨_, _, rfl, r1.out, r2.out, q7.out⟩
/-- A row of numbers that a set engine leaves as it is. -/
def LtN (ge gb gv : Nat) (L : List Int) (w : World) (v : Value) : Prop := ∀ z, Lt (ex3 ge gb gv) w z → RowE KN (· < z.heap.size) z L v
def LtB (ge gb gv : Nat) (L : List Bool) (w : World) (v : Value) : Prop := ∀ z, Lt (ex3 ge gb gv) w z → RowE KB (· < z.heap.size) z L v
section
variable {n : Nt} {B s ge gb gv : Nat} {st ip st0 ip0 : List Int} {wk : Int} {w w' : World}
theorem no3 {b : Nat} (hg : ge < s ∧ gb < s ∧ gv < s) (h : s ≤ b) : ¬ ex3 ge gb gv b := fun e => by rcases e with e | e | e <;> omega
theorem LtN.of {L : List Int} {v : Value} (hg : ge < s ∧ gb < s ∧ gv < s) (h : StM s L w v) : LtN ge gb gv L w v := fun _ q => ((h w (Below.refl _ _)).keep fun _ o hb => q.cell (o := o) hb.2 (no3 hg hb.1)).wide fun _ hb => Nat.lt_of_lt_of_le hb.2 q.size
theorem LtB.of {L : List Bool} {v : Value} (hg : ge < s ∧ gb < s ∧ gv < s) (h : RowE KB (fun b => s ≤ b ∧ b < w.heap.size) w L v) : LtB ge gb gv L w v := fun _ q => (h.keep fun _ o hb => q.cell (o := o) hb.2 (no3 hg hb.1)).wide fun _ hb => Nat.lt_of_lt_of_le hb.2 q.size
theorem LtN.step {L : List Int} {v : Value} (h : LtN ge gb gv L w v) (q : Lt (ex3 ge gb gv) w w') : LtN ge gb gv L w' v := fun z k => h z (q.trans k)
theorem LtB.step {L : List Bool} {v : Value} (h : LtB ge gb gv L w v) (q : Lt (ex3 ge gb gv) w w') : LtB ge gb gv L w' v := fun z k => h z (q.trans k)
theorem LtN.row {L : List Int} {v : Value} (h : LtN ge gb gv L w v) : RowE KN (· < w.heap.size) w L v := h w (Lt.refl _ _)
theorem LtB.row {L : List Bool} {v : Value} (h : LtB ge gb gv L w v) : RowE KB (· < w.heap.size) w L v := h w (Lt.refl _ _)
theorem Eg.lts (h : Eg n B ge gb gv st ip wk w) : ge < w.heap.size ∧ gb < w.heap.size ∧ gv < w.heap.size := by
  obtain ⟨⟨_, _, _, _, h1⟩, _⟩ := h
  exact ⟨h1.lte, h1.ltb, h1.ltv⟩
theorem lts_le {t : Nat} (h : ge < s ∧ gb < s ∧ gv < s) (q : s ≤ t) : ge < t ∧ gb < t ∧ gv < t := ⟨by omega, by omega, by omega⟩
theorem state_low_eg (hb : n.bases.length ≤ 1000000) (hi : n.inputs.length ≤ 1000000) (b1 : numsB st n.bases.length = true ∧ numsB ip n.inputs.length = true) (h : Eg n B ge gb gv st ip wk w) : Calls Tryz.prog 11 #[.pointer (some ⟨ge, 0, none⟩)] w (StaF st ip w) := by
  obtain ⟨⟨cb, R, vf, vm, h1⟩, h2⟩ := h
  have := state_low n _ _ _ w ge gb gv cb _ R vf vm wk (by rw [memb_len]; exact hb) (by rw [memb_len]; exact hi) h1
  rw [of_members b1.1, of_members b1.2] at this
  exact this
/-- Set, with numbers in range. -/
theorem set_st {f : Tm → Bool} (hck : chkN f n = 0) (hb : n.bases.length ≤ 1000000) (hi : n.inputs.length ≤ 1000000) (b1 : numsB st n.bases.length = true ∧ numsB ip n.inputs.length = true) {vs vi : Value} (h : Eg n B ge gb gv st0 ip0 wk w)
    (hs : RowE KN (· < w.heap.size) w st vs) (hip : RowE KN (· < w.heap.size) w ip vi) : Calls Tryz.prog 9 #[.pointer (some ⟨ge, 0, none⟩), vs, vi] w fun e w' =>
      ∃ (c : Nat) (k : Int), e = .returned (.tuple #[.int .i64 (c : Int), .int .i64 0]) ∧ Eg n B ge gb gv st ip k w' ∧ Lt (ex3 ge gb gv) w w' :=
  (set_eg hck hb hi b1 h hs hip).mono fun _ _ h => ⟨_, _, h⟩
/-- Set to what holds. -/
theorem set_again {f : Tm → Bool} (hck : chkN f n = 0) (hb : n.bases.length ≤ 1000000) (hi : n.inputs.length ≤ 1000000) (b1 : numsB st n.bases.length = true ∧ numsB ip n.inputs.length = true) {vs vi : Value} (h : Eg n B ge gb gv st ip wk w)
    (hs : RowE KN (· < w.heap.size) w st vs) (hip : RowE KN (· < w.heap.size) w ip vi) : Calls Tryz.prog 9 #[.pointer (some ⟨ge, 0, none⟩), vs, vi] w fun e w' =>
      e = .returned (.tuple #[.int .i64 0, .int .i64 0]) ∧ Eg n B ge gb gv st ip 0 w' ∧ Lt (ex3 ge gb gv) w w' := by
  have := set_eg hck hb hi b1 h hs hip
  rw [ch_same, wk_same] at this
  exact this
/-- Set, with any numbers for the bases: an error changes nothing. -/
theorem set_try {f : Tm → Bool} (hck : chkN f n = 0) (hb : n.bases.length ≤ 1000000) (hi : n.inputs.length ≤ 1000000) (b1 : numsB ip n.inputs.length = true) {vs vi : Value} (h : Eg n B ge gb gv st0 ip0 wk w)
    (hs : RowE KN (· < w.heap.size) w st vs) (hip : RowE KN (· < w.heap.size) w ip vi) : Calls Tryz.prog 9 #[.pointer (some ⟨ge, 0, none⟩), vs, vi] w fun e w' =>
      ∃ (c er : Int) (st1 ip1 : List Int) (k1 : Int), e = .returned (.tuple #[.int .i64 c, .int .i64 er]) ∧ Eg n B ge gb gv st1 ip1 k1 w' ∧ Lt (ex3 ge gb gv) w w' ∧ (er ≠ 0 → st1 = st0 ∧ ip1 = ip0 ∧ k1 = wk) := by
  cases hc : numsB st n.bases.length
  · obtain ⟨p', c', rfl⟩ := hip.form
    refine (set_bad (m' := ip.length) h hc hs).mono ?_
    rintro e w' ⟨rfl, q⟩
    exact ⟨_, _, _, _, _, rfl, h.below q, Lt.of q, fun _ => ⟨rfl, rfl, rfl⟩⟩
  · refine (set_eg hck hb hi ⟨hc, b1⟩ h hs hip).mono ?_
    rintro e w' ⟨rfl, h1, h2⟩
    exact ⟨_, _, _, _, _, rfl, h1, h2, fun e => absurd rfl e⟩
end
end NetDz
end Go.Proofs.YtgbbpliihglijaaGreat
/- delta's engine beside another block that changes: frames. Conditions: a live engine of a valid network. Made by gnQe.py. -/
namespace Go.Proofs.YtgbbpliihglijaaGreat
open Go Go.RowKit
namespace NetQe
open Kit TermM TermI TermH NetM NetN NetK NetA NetC NetI NetMk NetNu NetOk NetEv NetBo NetMb NetVv NetS NetDn NetDg NetDc NetTn NetDp NetEm NetLt NetDx NetDw NetDu NetDs NetDt NetDe NetEg NetSb NetDz
/-- A live engine whose readers' rows are named. -/
def Eg2 (n : Nt) (B : Nat) (RV : List Value) (ge gb gv : Nat) (st ip : List Int) (wk : Int) (w : World) : Prop :=
  (∃ (cb : Nat) (vf vm : Value), EngU n ge gb gv cb n.gates.length RV (valsN st ip n) (memB st n.bases.length) (memB ip n.inputs.length) vf vm wk w) ∧ B ≤ ge ∧ B ≤ gb ∧ B ≤ gv
section
variable {n : Nt} {B s re ge gb gv : Nat} {RV : List Value} {st ip st0 ip0 : List Int} {wk : Int} {w w' : World}
theorem Eg2.eg (h : Eg2 n B RV ge gb gv st ip wk w) : Eg n B ge gb gv st ip wk w := by
  obtain ⟨⟨cb, vf, vm, h1⟩, h2⟩ := h
  exact ⟨⟨cb, RV, vf, vm, h1⟩, h2⟩
theorem Eg2.below (h : Eg2 n B RV ge gb gv st ip wk w) (q : Below w.heap.size w w') : Eg2 n B RV ge gb gv st ip wk w' := by
  obtain ⟨⟨cb, vf, vm, h1⟩, h2⟩ := h
  exact ⟨⟨cb, vf, vm, EngU.below h1 q⟩, h2⟩
/-- The readers' rows lie below s. -/
def RB (s : Nat) (n : Nt) (RV : List Value) : Prop := ∀ (j : Nat) (v : Value), RV[j]? = some v → ∃ w0, RowE KN (· < s) w0 (rdN n j) v
theorem Eg.two (h : Eg n B ge gb gv st ip wk w) : ∃ RV, Eg2 n B RV ge gb gv st ip wk w ∧ RB w.heap.size n RV := by
  obtain ⟨⟨cb, R, vf, vm, h1⟩, h2⟩ := h
  exact ⟨R, ⟨⟨cb, vf, vm, h1⟩, h2⟩, fun j v hv => ⟨w, (h1.rr j v hv).wide fun b hb => hb.1⟩⟩
theorem rowb_past {ok ok' : Nat → Prop} {L : List Bool} {v : Value} (h : RowE KB ok w L v) (hk : ∀ b, ok b → ok' b) (hc : ∀ (b o : Nat) (x : Bool), ok b → w.cell? ⟨b, o, none⟩ = some (.bool x) → w'.cell? ⟨b, o, none⟩ = some (.bool x)) : RowE KB ok' w' L v := by
  obtain ⟨p, c, h1, h0, h2, h3, h4, h5⟩ := h
  refine ⟨p, c, h1, h0, h2, h3, fun x hx => trivial, fun hl => ?_⟩
  obtain ⟨g, o, e1, e2, e3⟩ := h5 hl
  refine ⟨g, o, e1, hk _ e2, fun i x hx j u hu => ?_⟩
  have hj := (List.getElem?_eq_some_iff.1 hu).1
  rw [KB.len] at hj
  obtain rfl : j = 0 := by have : j < 1 := hj; omega
  have e : Value.bool x = u := Option.some.inj hu
  subst e
  exact hc _ _ x e2 (e3 i x hx 0 _ rfl)
theorem rown_two {ok ok' : Nat → Prop} {w0 : World} {L : List Int} {v : Value} (h : RowE KN ok w L v) (k : RowE KN ok' w0 L v) : RowE KN (fun b => ok b ∧ ok' b) w L v := by
  obtain ⟨p, c, h1, h0, h2, h3, h4, h5⟩ := h
  obtain ⟨p', c', k1, _, _, _, _, k5⟩ := k
  subst h1
  injection k1 with k1 _ _
  subst k1
  refine ⟨p, c, rfl, h0, h2, h3, h4, fun hl => ?_⟩
  obtain ⟨g, o, e1, e2, e3⟩ := h5 hl
  obtain ⟨g', o', f1, f2, _⟩ := k5 hl
  subst e1
  injection f1 with f1
  injection f1 with f1 _ _
  subst f1
  exact ⟨g, o, rfl, ⟨e2, f2⟩, e3⟩
/-- Another block changes, but no bool in it. -/
theorem Eg2.past (h : Eg2 n B RV ge gb gv st ip wk w) (hr : RB s n RV) (q : Lt (· = re) w w') (hg : ge < s ∧ gb < s ∧ gv < s) (hre : s ≤ re) (hb : ∀ (o : Nat) (x : Bool), w.cell? ⟨re, o, none⟩ = some (.bool x) → w'.cell? ⟨re, o, none⟩ = some (.bool x)) : Eg2 n B RV ge gb gv st ip wk w' := by
  obtain ⟨⟨cb, vf, vm, h1⟩, h2⟩ := h
  have l1 := h1.lte
  have l2 := h1.ltb
  have l3 := h1.ltv
  have hs := q.size
  have c : ∀ b o : Nat, (b = ge ∨ b = gb ∨ b = gv) → w'.cell? ⟨b, o, none⟩ = w.cell? ⟨b, o, none⟩ ∧ w'.frozen? ⟨b, o, none⟩ = w.frozen? ⟨b, o, none⟩ := fun b o hb => by
    have h3 : b < w.heap.size := by rcases hb with rfl | rfl | rfl <;> assumption
    have h4 : ¬ b = re := by rcases hb with rfl | rfl | rfl <;> omega
    exact ⟨q.cell h3 h4, q.frozen h3 h4⟩
  have wd : ∀ b, okE ge gb gv w b → okE ge gb gv w' b := fun b hb => ⟨by have := hb.1; omega, hb.2⟩
  have cb' : ∀ (b o : Nat) (x : Bool), okE ge gb gv w b → w.cell? ⟨b, o, none⟩ = some (.bool x) → w'.cell? ⟨b, o, none⟩ = some (.bool x) := fun b o x hk hx => by
    by_cases e : b = re
    · subst e
      exact hb o x hx
    · exact (q.cell hk.1 e).trans hx
  exact ⟨⟨cb, vf, vm, h1.eng.keep c, (c ge 3 (Or.inl rfl)).1.trans h1.f3, (c ge 4 (Or.inl rfl)).1.trans h1.f4, (c ge 5 (Or.inl rfl)).1.trans h1.f5, fun q => (c ge q (Or.inl rfl)).2.trans (h1.free q), by omega, by omega, by omega,
    rowb_past h1.rf wd cb', rowb_past h1.rm wd cb', fun j v hv => by
      obtain ⟨w0, h3⟩ := hr j v hv
      exact ((rown_two (h1.rr j v hv) h3).keep fun b o hb => q.cell hb.1.1 (by have := hb.2; omega)).wide fun b hb => wd b hb.1⟩, h2⟩
theorem set2 {f : Tm → Bool} (hck : chkN f n = 0) (hb : n.bases.length ≤ 1000000) (hi : n.inputs.length ≤ 1000000) (b1 : numsB st n.bases.length = true ∧ numsB ip n.inputs.length = true) {vs vi : Value} (h : Eg2 n B RV ge gb gv st0 ip0 wk w)
    (hs : RowE KN (· < w.heap.size) w st vs) (hip : RowE KN (· < w.heap.size) w ip vi) : Calls Tryz.prog 9 #[.pointer (some ⟨ge, 0, none⟩), vs, vi] w fun e w' =>
      e = .returned (.tuple #[.int .i64 (chN (valsN st0 ip0 n) (valsN st ip n) n.gates.length : Nat), .int .i64 0]) ∧ Eg2 n B RV ge gb gv st ip (wkN (valsN st0 ip0 n) (valsN st ip n) n n.gates.length : Nat) w' ∧ Lt (ex3 ge gb gv) w w' := by
  obtain ⟨⟨cb, vf, vm, h1⟩, h2⟩ := h
  refine (set_any n st0 ip0 st ip _ _ w ge gb gv cb _ RV vf vm vs vi wk w.heap.size hck hb hi (memb_len _ _) (memb_len _ _) (Nat.le_refl _) hs hip b1 h1).mono ?_
  rintro e w' ⟨rfl, h3⟩
  obtain ⟨vf', vm', h4⟩ := h3.ex
  exact ⟨rfl, ⟨⟨cb, vf', vm', h4⟩, h2⟩, h3.lt⟩
end
/-- What Set answers and leaves: the number of changes, the error, the state, the inputs, the work. -/
def runC (n : Nt) (st ip : List Int) (wk : Int) (st' ip' : List Int) : Int × Int × List Int × List Int × Int :=
  if numsB st' n.bases.length = true then if numsB ip' n.inputs.length = true then (((chN (valsN st ip n) (valsN st' ip' n) n.gates.length : Nat) : Int), (0 : Int), st', ip', ((wkN (valsN st ip n) (valsN st' ip' n) n n.gates.length : Nat) : Int)) else (0, 15, st, ip, wk) else (0, 14, st, ip, wk)
section
variable {n : Nt} {st ip st' ip' : List Int} {wk : Int}
theorem run_ok (h1 : numsB st' n.bases.length = true) (h2 : numsB ip' n.inputs.length = true) : runC n st ip wk st' ip' = (((chN (valsN st ip n) (valsN st' ip' n) n.gates.length : Nat) : Int), (0 : Int), st', ip', ((wkN (valsN st ip n) (valsN st' ip' n) n n.gates.length : Nat) : Int)) := by unfold runC; rw [if_pos h1, if_pos h2]
theorem run_15 (h1 : numsB st' n.bases.length = true) (h2 : numsB ip' n.inputs.length = false) : runC n st ip wk st' ip' = (0, 15, st, ip, wk) := by unfold runC; rw [if_pos h1, if_neg (by rw [h2]; decide)]
theorem run_14 (h1 : numsB st' n.bases.length = false) : runC n st ip wk st' ip' = (0, 14, st, ip, wk) := by unfold runC; rw [if_neg (by rw [h1]; decide)]
/-- The state and the inputs stay valid. -/
theorem run_in (h : numsB st n.bases.length = true ∧ numsB ip n.inputs.length = true) : numsB (runC n st ip wk st' ip').2.2.1 n.bases.length = true ∧ numsB (runC n st ip wk st' ip').2.2.2.1 n.inputs.length = true := by
  cases h1 : numsB st' n.bases.length
  · rw [run_14 h1]; exact h
  · cases h2 : numsB ip' n.inputs.length
    · rw [run_15 h1 h2]; exact h
    · rw [run_ok h1 h2]; exact ⟨h1, h2⟩
end
set_option maxRecDepth 100000 in
set_option maxHeartbeats 3200000 in
theorem set_badi {n : Nt} {B ge gb gv : Nat} {st ip st0 ip0 : List Int} {wk : Int} {w : World} {vs vi : Value} (h : Eg n B ge gb gv st0 ip0 wk w) (hb0 : numsB st n.bases.length = true) (hb1 : numsB ip n.inputs.length = false) (hs : RowE KN (· < w.heap.size) w st vs) (hi : RowE KN (· < w.heap.size) w ip vi) :
    Calls Tryz.prog 9 #[.pointer (some ⟨ge, 0, none⟩), vs, vi] w fun e w' => e = .returned (.tuple #[.int .i64 0, .int .i64 15]) ∧ Below w.heap.size w w' := by
  obtain ⟨⟨cb, R, vf, vm, EU⟩, _⟩ := h
  obtain ⟨psl, csl, rfl⟩ := hs.form
  obtain ⟨pil, cil, rfl⟩ := hi.form
  obtain ⟨pf, cf, rfl⟩ := EU.rf.form
  obtain ⟨pm, cm, rfl⟩ := EU.rm.form
  have VS0 := ascb_any st n.bases.length w.heap.size w _ (Nat.le_refl _) hs
  rw [hb0] at VS0
  have VS := Lib.hid VS0
  have VI := Lib.hid (fun w' (q : Below w.heap.size w w') => by
    have h := ascb_any ip n.inputs.length w.heap.size w' _ q.size (hi.keep fun b o (hb : b < w.heap.size) => q.cell (p := ⟨b, o, none⟩) hb)
    rw [hb1] at h
    exact h)
  have RT := Lib.hid (returned_live ge w EU.eng.self)
  have CE := Lib.hid (fun w' (q : Below w.heap.size w w') => show w'.cell? ⟨ge, 3, none⟩ = some (.slice pf n.bases.length cf) ∧ w'.cell? ⟨ge, 4, none⟩ = some (.slice pm n.inputs.length cm) from by
    have := EngU.below EU q
    have h3 := this.f3
    have h4 := this.f4
    rw [memb_len] at h3 h4
    exact ⟨h3, h4⟩)
  obtain ⟨x3, x4⟩ := CE.out w (Below.refl _ _)
  clear hs hi EU VS0 hb1 hb0
  go_enter Tryz.func9, Tryz.ntmps9
  go_wp2_with fail
  refine RT.out.mono ?_
  rintro e w2 ⟨rfl, rfl⟩
  go_wp2_with fail
  refine VS.out.mono ?_
  rintro e w3 ⟨rfl, g3⟩
  have D3 : Hid (Below w.heap.size w w3) := Lib.hid g3
  clear g3 x3 x4
  obtain ⟨x3, x4⟩ := CE.out w3 D3.out
  go_wp2_with fail
  refine (VI.out w3 D3.out).mono ?_
  rintro e w4 ⟨rfl, g4⟩
  have D4 : Hid (Below w.heap.size w w4) := Lib.hid (next0 D3.out g4)
  clear g4 x3 x4
  go_wp2_with fail
  refine bodyPost_ret (v := .tuple #[.int .i64 0, .int .i64 15]) (by simp [results, Tryz.results9, go_sem]) rfl ?_
  exact ⟨rfl, D4.out⟩
section
variable {n : Nt} {B ge gb gv : Nat} {RV : List Value} {st ip st0 ip0 : List Int} {wk : Int} {w w' : World}
/-- Set, at any numbers. -/
theorem set_run {f : Tm → Bool} (hck : chkN f n = 0) (hb : n.bases.length ≤ 1000000) (hi : n.inputs.length ≤ 1000000) {vs vi : Value} (h : Eg2 n B RV ge gb gv st0 ip0 wk w)
    (hs : RowE KN (· < w.heap.size) w st vs) (hip : RowE KN (· < w.heap.size) w ip vi) : Calls Tryz.prog 9 #[.pointer (some ⟨ge, 0, none⟩), vs, vi] w fun e w' =>
      e = .returned (.tuple #[.int .i64 (runC n st0 ip0 wk st ip).1, .int .i64 (runC n st0 ip0 wk st ip).2.1]) ∧ Eg2 n B RV ge gb gv (runC n st0 ip0 wk st ip).2.2.1 (runC n st0 ip0 wk st ip).2.2.2.1 (runC n st0 ip0 wk st ip).2.2.2.2 w' ∧ Lt (ex3 ge gb gv) w w' := by
  cases h1 : numsB st n.bases.length
  · rw [run_14 h1]
    obtain ⟨p', c', rfl⟩ := hip.form
    refine (set_bad (m' := ip.length) h.eg h1 hs).mono ?_
    rintro e w' ⟨rfl, q⟩
    exact ⟨rfl, h.below q, Lt.of q⟩
  · cases h2 : numsB ip n.inputs.length
    · rw [run_15 h1 h2]
      refine (set_badi h.eg h1 h2 hs hip).mono ?_
      rintro e w' ⟨rfl, q⟩
      exact ⟨rfl, h.below q, Lt.of q⟩
    · rw [run_ok h1 h2]
      exact set2 hck hb hi ⟨h1, h2⟩ h hs hip
end
end NetQe
end Go.Proofs.YtgbbpliihglijaaGreat
