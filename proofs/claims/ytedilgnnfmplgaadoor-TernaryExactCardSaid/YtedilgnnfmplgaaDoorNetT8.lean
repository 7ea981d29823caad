/- The walk of TernaryValues; lists of numbers as arguments. Condition: the tables are as laid. Made by gnT8.py. -/
import Derived.Test.YtedilgnnfmplgaaDoorNetT5
import Derived.Test.YtedilgnnfmplgaaDoorNetTz
import Derived.Test.YtedilgnnfmplgaaDoorNetSz
import Derived.Test.YtedilgnnfmplgaaDoorGBB
namespace Go.Proofs.YtedilgnnfmplgaaDoor
open Go Go.RowKit Go.ChangeShapes
namespace NetT8
open Kit TermM TermI TermH NetM NetN NetK NetO NetA NetC NetI NetMk NetOk NetEv NetS NetTn NetTt NetTm NetTq NetSa NetT5 NetSl NetSz
set_option maxRecDepth 100000 in
theorem open_nums {H : Type} {enc : TypeId × Value → H} {W : World} {b0 : Nat} {base : Nat} {sp : Nat → Bool} {held : Bool} {v : Value} {d : DataW H} {p : List MemPlace}
    (hv : Value.okWide Tryd.prog W .any b0 29 v) (h : DataW.Trod enc Tryd.prog W base sp held 29 v d p) : ∃ (l : List Int) (u : Value), v = u ∧ RowE KN (· < W.heap.size) W l u := by
  obtain ⟨a0, m0, c0, rfl⟩ := Go.WideShapes.okWide_slice Tryd.underlying29 hv
  obtain ⟨fuel, hf⟩ := h
  obtain ⟨l, v, e, hin⟩ := nums_in hf
  simp [Value.cells] at e
  subst e
  exact ⟨l, _, rfl, hin⟩
set_option maxRecDepth 100000 in
set_option maxHeartbeats 6400000 in
theorem law (n : Nt) (h : Nh) (bs is : List Int) (w : World) (vs vi : Value) (k : NetIn (· < w.heap.size) w n h) (hs : RowE KN (· < w.heap.size) w bs vs) (hi : RowE KN (· < w.heap.size) w is vi) (ht : Tb w) :
    Calls Tryd.prog 4 #[.agg #[.slice h.gp n.gates.length h.gc, .slice h.rp n.roles.length h.rc, .slice h.bp n.bases.length h.bc, .slice h.ip n.inputs.length h.ic, .slice h.ap n.initial.length h.ac, .slice h.np n.next.length h.nc, .slice h.lp n.legal.length h.lc, .slice h.op n.goals.length h.oc, .slice h.sp n.sees.length h.sc, .int .i64 n.last, .bool n.hid], vs, vi] w fun e w' => e = .returned (.bool true) ∧ Below w.heap.size w w' := by
  obtain ⟨Wb, hWb⟩ : ∃ z, z = w.alloc (.cells #[.slice h.gp n.gates.length h.gc, .slice h.rp n.roles.length h.rc, .slice h.bp n.bases.length h.bc, .slice h.ip n.inputs.length h.ic, .slice h.ap n.initial.length h.ac, .slice h.np n.next.length h.nc, .slice h.lp n.legal.length h.lc, .slice h.op n.goals.length h.oc, .slice h.sp n.sees.length h.sc, .int .i64 n.last, .bool n.hid] 32) := ⟨_, rfl⟩
  have BB : Hid (Below w.heap.size w Wb) := Lib.hid (by rw [hWb]; exact below_alloc _ _)
  have H1 : Hid (Has Wb w.heap.size (netC n h)) := Lib.hid (by rw [hWb]; exact Has.new _ _ _)
  have hzB := BB.out.size
  have KW := Lib.hid (fun w' (q : Below Wb.heap.size Wb w') => show Below w.heap.size w w' from BB.out.trans (q.mono hzB))
  have NK := Lib.hid (fun w' (q : Below Wb.heap.size Wb w') => k.deep (KW.out w' q) (Nat.le_refl _))
  have HQ := Lib.hid (fun w' (q : Below Wb.heap.size Wb w') => hasN (H1.out.step0 q))
  have RS := Lib.hid (fun w' (q : Below Wb.heap.size Wb w') => hs.keep (w' := w') fun b o (hb : b < w.heap.size) => (KW.out w' q).cell (p := ⟨b, o, none⟩) hb)
  have RI := Lib.hid (fun w' (q : Below Wb.heap.size Wb w') => hi.keep (w' := w') fun b o (hb : b < w.heap.size) => (KW.out w' q).cell (p := ⟨b, o, none⟩) hb)
  have TB := Lib.hid (fun w' (q : Below Wb.heap.size Wb w') => ht.below (KW.out w' q))
  have SM := Lib.hid (fun w' (q : Below Wb.heap.size Wb w') => NetSl.law_small n h w.heap.size w' (KW.out w' q).size (NK.out w' q))
  have CV := Lib.hid (fun (hz : SzN n) w' (q : Below Wb.heap.size Wb w') => NetTv.values_any n h bs is w.heap.size w' vs vi (KW.out w' q).size (NK.out w' q) hz (RS.out w' q) (RI.out w' q) (TB.out w' q))
  have CR := Lib.hid (fun (hz : SzN n) w' (q : Below Wb.heap.size Wb w') => NetTz.rvalues_any n h bs is w.heap.size w' vs vi (KW.out w' q).size (NK.out w' q) hz (RS.out w' q) (RI.out w' q))
  obtain ⟨psl, csl, rfl⟩ := hs.form
  obtain ⟨pil, cil, rfl⟩ := hi.form
  have D0 : Hid (Below Wb.heap.size Wb Wb) := Lib.hid (Below.refl _ _)
  clear k hs hi ht RS RI NK
  generalize tvV groundB bs is n = S at *
  generalize tvE groundB bs is n = er at *
  generalize bs.length = lb at *
  generalize is.length = li at *
  obtain ⟨z, hz⟩ : ∃ z, IntKind.i64.wrap ((lb : Int) + (li : Int)) = z := ⟨_, rfl⟩
  go_enter Tryd.func4, Tryd.ntmps4
  go_upto_region 1 with fail
  rw [← hWb]
  clear hWb
  have C1 := Lib.hid (SM.out Wb D0.out)
  obtain ⟨q1, q2, q3, q4, q5, q6, q7, q8, q9, q10, q11⟩ := HQ.out Wb D0.out
  go_wp2_with fail
  refine C1.out.mono ?_
  rintro e w1 ⟨b1, rfl, s1, g1⟩
  have J1 : Hid (Below Wb.heap.size Wb w1) := Lib.hid g1
  have D1 : Hid (Below Wb.heap.size Wb w1) := Lib.hid (next0 D0.out g1)
  have S1 := Lib.hid s1
  clear s1
  clear g1 C1 q1 q2 q3 q4 q5 q6 q7 q8 q9 q10 q11
  cases b1
  · have C2 := Lib.hid (alive_any w1 (TB.out w1 D1.out))
    go_wp2_with fail
    refine C2.out.mono ?_
    rintro e w2 ⟨rfl, g2⟩
    have J2 : Hid (Below w1.heap.size w1 w2) := Lib.hid g2
    have D2 : Hid (Below Wb.heap.size Wb w2) := Lib.hid (next0 D1.out g2)
    clear g2 C2
    have DF := Lib.hid (KW.out _ D2.out)
    go_wp2_with fail
    go_ret
    exact ⟨rfl, DF.out⟩
  have ZN := Lib.hid (sz_of (S1.out rfl))
  clear S1
  by_cases hb : z > 60
  · have C2 := Lib.hid (alive_any w1 (TB.out w1 D1.out))
    go_wp2_with fail
    refine C2.out.mono ?_
    rintro e w2 ⟨rfl, g2⟩
    have J2 : Hid (Below w1.heap.size w1 w2) := Lib.hid g2
    have D2 : Hid (Below Wb.heap.size Wb w2) := Lib.hid (next0 D1.out g2)
    clear g2 C2
    have DF := Lib.hid (KW.out _ D2.out)
    go_wp2_with fail
    go_ret
    exact ⟨rfl, DF.out⟩
  have C2 := Lib.hid (CV.out ZN.out w1 D1.out)
  obtain ⟨q1, q2, q3, q4, q5, q6, q7, q8, q9, q10, q11⟩ := HQ.out w1 D1.out
  go_wp2_with fail
  refine C2.out.mono ?_
  rintro e w2 ⟨v2, rfl, hv2, g2⟩
  have J2 : Hid (Below w1.heap.size w1 w2) := Lib.hid g2
  have D2 : Hid (Below Wb.heap.size Wb w2) := Lib.hid (next0 D1.out g2)
  have G2 := Lib.hid hv2
  obtain ⟨p2, c2, rfl⟩ := hv2.form
  clear hv2
  clear g2 C2 q1 q2 q3 q4 q5 q6 q7 q8 q9 q10 q11
  have C3 := Lib.hid (CR.out ZN.out w2 D2.out)
  obtain ⟨q1, q2, q3, q4, q5, q6, q7, q8, q9, q10, q11⟩ := HQ.out w2 D2.out
  go_wp2_with fail
  refine C3.out.mono ?_
  rintro e w3 ⟨v3, rfl, hv3, g3⟩
  have J3 : Hid (Below w2.heap.size w2 w3) := Lib.hid g3
  have D3 : Hid (Below Wb.heap.size Wb w3) := Lib.hid (next0 D2.out g3)
  have G3 := Lib.hid hv3
  obtain ⟨p3, c3, rfl⟩ := hv3.form
  clear hv3
  clear g3 C3 q1 q2 q3 q4 q5 q6 q7 q8 q9 q10 q11
  have C4 := Lib.hid (alive_any w3 (TB.out w3 D3.out))
  go_wp2_with fail
  refine C4.out.mono ?_
  rintro e w4 ⟨rfl, g4⟩
  have J4 : Hid (Below w3.heap.size w3 w4) := Lib.hid g4
  have D4 : Hid (Below Wb.heap.size Wb w4) := Lib.hid (next0 D3.out g4)
  clear g4 C4
  have C5 := Lib.hid (ints_eq S w4 _ _ (row_on G2.out (next0 J3.out J4.out)) (row_on G3.out J4.out))
  go_wp2_with fail
  refine C5.out.mono ?_
  rintro e w5 ⟨rfl, g5⟩
  have J5 : Hid (Below w4.heap.size w4 w5) := Lib.hid g5
  have D5 : Hid (Below Wb.heap.size Wb w5) := Lib.hid (next0 D4.out g5)
  clear g5 C5
  have DF := Lib.hid (KW.out _ D5.out)
  have er1 : (er == er) = true := by simp
  go_wp2_with fail
  go_ret
  exact ⟨rfl, DF.out⟩
end NetT8
end Go.Proofs.YtedilgnnfmplgaaDoor
