/- law25's alive: the examples hold. Condition: the tables are as laid. Made by gnT5.py. -/
import Derived.Test.YtedilgnnfmplgaaDoorNetTv
import Derived.Test.YtedilgnnfmplgaaDoorNetTq
import Derived.Test.YtedilgnnfmplgaaDoorNetSa
import Derived.Test.YtedilgnnfmplgaaDoorGBD
namespace Go.Proofs.YtedilgnnfmplgaaDoor
open Go Go.RowKit
namespace NetT5
open Kit TermM TermI TermH NetM NetN NetK NetA NetC NetI NetMk NetOk NetEv NetS NetTn NetTt NetTm NetTq NetSa
theorem and_is {a b x : Int} (h : tand a b = x) (w : World) (ht : Tb w) : Calls Tryd.prog 10 #[.int .i64 a, .int .i64 b] w fun e w' => e = .returned (.int .i64 x) ∧ Below w.heap.size w w' := h ▸ and_any a b w ht
theorem or_is {a b x : Int} (h : tor a b = x) (w : World) (ht : Tb w) : Calls Tryd.prog 12 #[.int .i64 a, .int .i64 b] w fun e w' => e = .returned (.int .i64 x) ∧ Below w.heap.size w w' := h ▸ or_any a b w ht
theorem not_is {a x : Int} (h : tnot a = x) (w : World) (ht : Tb w) : Calls Tryd.prog 14 #[.int .i64 a] w fun e w' => e = .returned (.int .i64 x) ∧ Below w.heap.size w w' := h ▸ not_any a w ht
theorem smp_values {bs is S : List Int} {er : Int} (hS : tvV groundB bs is smpN = S) (hE : tvE groundB bs is smpN = er) (h : Nh) (w : World) (k : NetIn (· < w.heap.size) w smpN h) (vs vi : Value) (hs : RowE KN (· < w.heap.size) w bs vs) (hi : RowE KN (· < w.heap.size) w is vi) (ht : Tb w) :
    Calls Tryd.prog 17 #[.agg (netC smpN h), vs, vi] w (IntE S er w) := by
  subst hS hE
  exact NetTv.values_any smpN h bs is w.heap.size w vs vi (Nat.le_refl _) k smp_sz hs hi ht
theorem ints_eq (S : List Int) (w : World) (v v' : Value) (ha : RowE KN (· < w.heap.size) w S v) (hl : RowE KN (· < w.heap.size) w S v') :
    Calls Tryd.prog 19 #[v, v'] w fun e w' => e = .returned (.bool true) ∧ Below w.heap.size w w' :=
  (NetZ.ints_any S S _ _ w v v' ha hl (fun _ h => h) (fun _ h => h)).mono fun _ _ h => ⟨by rw [h.1, decide_eq_true rfl], h.2⟩
theorem ref_is {a b : List Int} {x : Bool} (h : refN a b = x) (w : World) (v v' : Value) (ha : RowE KN (· < w.heap.size) w a v) (hl : RowE KN (· < w.heap.size) w b v') :
    Calls Tryd.prog 22 #[v, v'] w fun e w' => e = .returned (.bool x) ∧ Below w.heap.size w w' :=
  h ▸ refines_any a b _ _ w v v' ha hl (fun _ h => h) (fun _ h => h)
/-- A literal slice of numbers. -/
theorem lit_n (w : World) {g : Nat} (hg : w.heap.size = g) (L : List Int) (cs : Array Value) (hc : cs.toList = L.flatMap KN.cells) (hm : L.length ≤ maxLen) (hi : ∀ x ∈ L, I64 x) : RowE KN (· < (w.alloc (.cells cs 3)).heap.size) (w.alloc (.cells cs 3)) L (.slice (some ⟨g, 0, none⟩) L.length L.length) :=
  hg ▸ row_has hc (Has.new _ _ _) (by simp) hm hi
theorem row_on {α : Type} {K : Ke α} {B : Nat} {w w' : World} {L : List α} {v : Value} (h : RowE K (fun b => B ≤ b ∧ b < w.heap.size) w L v) (q : Below w.heap.size w w') : RowE K (· < w'.heap.size) w' L v := (h.keep fun b o hb => q.cell (p := ⟨b, o, none⟩) hb.2).wide fun _ hb => Nat.lt_of_lt_of_le hb.2 q.size
theorem lit_on {w : World} {L : List Int} {v : Value} (o : Obj) (h : RowE KN (· < w.heap.size) w L v) : RowE KN (· < (w.alloc o).heap.size) (w.alloc o) L v := (h.keep fun b o hb => (below_alloc _ _).cell (p := ⟨b, o, none⟩) hb).wide fun _ hb => Nat.lt_of_lt_of_le hb (below_alloc _ _).size
theorem tri_all {L : List Int} (h : L.all (fun x => decide (x = 0) || (decide (x = 1) || decide (x = 2))) = true) : ∀ x ∈ L, I64 x := fun x hx => by
  have := List.all_eq_true.1 h x hx
  rw [Bool.or_eq_true, Bool.or_eq_true, decide_eq_true_eq, decide_eq_true_eq, decide_eq_true_eq] at this
  exact t3_i64 this
theorem smp_e1 : tvV groundB [2] [0] smpN = [2, 2, 2] := by kernel_rfl
theorem smp_e2 : tvE groundB [2] [0] smpN = 0 := by kernel_rfl
set_option maxRecDepth 100000 in
set_option maxHeartbeats 6400000 in
theorem alive_any (w : World) (ht : Tb w) : Calls Tryd.prog 9 #[] w fun e w' => e = .returned (.bool true) ∧ Below w.heap.size w w' := by
  have TB := Lib.hid (fun w' (q : Below w.heap.size w w') => ht.below q)
  have D0 : Hid (Below w.heap.size w w) := Lib.hid (Below.refl _ _)
  clear ht
  go_enter Tryd.func9, Tryd.ntmps9
  have C1 := Lib.hid (and_is (a := 1) (b := 2) (x := 2) (by decide) w (TB.out w D0.out))
  go_wp2_with fail
  refine C1.out.mono ?_
  rintro e w1 ⟨rfl, g1⟩
  have J1 : Hid (Below w.heap.size w w1) := Lib.hid (g1)
  have D1 : Hid (Below w.heap.size w w1) := Lib.hid (next0 D0.out J1.out)
  clear g1 C1
  have C2 := Lib.hid (and_is (a := 0) (b := 2) (x := 0) (by decide) w1 (TB.out w1 D1.out))
  go_wp2_with fail
  refine C2.out.mono ?_
  rintro e w2 ⟨rfl, g2⟩
  have J2 : Hid (Below w1.heap.size w1 w2) := Lib.hid (g2)
  have D2 : Hid (Below w.heap.size w w2) := Lib.hid (next0 D1.out J2.out)
  clear g2 C2
  have C3 := Lib.hid (or_is (a := 1) (b := 2) (x := 1) (by decide) w2 (TB.out w2 D2.out))
  go_wp2_with fail
  refine C3.out.mono ?_
  rintro e w3 ⟨rfl, g3⟩
  have J3 : Hid (Below w2.heap.size w2 w3) := Lib.hid (g3)
  have D3 : Hid (Below w.heap.size w w3) := Lib.hid (next0 D2.out J3.out)
  clear g3 C3
  have C4 := Lib.hid (not_is (a := 2) (x := 2) (by decide) w3 (TB.out w3 D3.out))
  go_wp2_with fail
  refine C4.out.mono ?_
  rintro e w4 ⟨rfl, g4⟩
  have J4 : Hid (Below w3.heap.size w3 w4) := Lib.hid (g4)
  have D4 : Hid (Below w.heap.size w w4) := Lib.hid (next0 D3.out J4.out)
  clear g4 C4
  have C5 := Lib.hid (and_is (a := 1) (b := 7) (x := 2) (by decide) w4 (TB.out w4 D4.out))
  go_wp2_with fail
  refine C5.out.mono ?_
  rintro e w5 ⟨rfl, g5⟩
  have J5 : Hid (Below w4.heap.size w4 w5) := Lib.hid (g5)
  have D5 : Hid (Below w.heap.size w w5) := Lib.hid (next0 D4.out J5.out)
  clear g5 C5
  have C6 := Lib.hid (sample_any w5)
  go_wp2_with fail
  refine C6.out.mono ?_
  rintro e w6 ⟨h, rfl, hn, g6⟩
  have J6 : Hid (Below w5.heap.size w5 w6) := Lib.hid (g6)
  have D6 : Hid (Below w.heap.size w w6) := Lib.hid (next0 D5.out J6.out)
  have HN := Lib.hid hn
  clear hn
  clear g6 C6
  have C7 := Lib.hid (smp_values smp_e1 smp_e2 h ((w6.alloc (.cells #[.int .i64 2] 3)).alloc (.cells #[.int .i64 0] 3)) ((HN.out.keep fun b o hb => ((next0 (below_alloc _ _) (below_alloc _ _)).cell (p := ⟨b, o, none⟩) hb.2)).wide (ok' := (· < ((w6.alloc (.cells #[.int .i64 2] 3)).alloc (.cells #[.int .i64 0] 3)).heap.size)) fun b hb => Nat.lt_of_lt_of_le hb.2 (next0 (below_alloc _ _) (below_alloc _ _)).size) (.slice (some ⟨w6.heap.size, 0, none⟩) 1 1) (.slice (some ⟨w6.heap.size + 1, 0, none⟩) 1 1) (lit_on _ (lit_n w6 rfl [2] #[.int .i64 2] rfl (by decide) (tri_all (by decide)))) (lit_n (w6.alloc (.cells #[.int .i64 2] 3)) (by simp) [0] #[.int .i64 0] rfl (by decide) (tri_all (by decide))) (TB.out _ (next0 D6.out (next0 (below_alloc _ _) (below_alloc _ _)))))
  go_wp2_with fail
  refine C7.out.mono ?_
  rintro e w7 ⟨v7, rfl, hv7, g7⟩
  have J7 : Hid (Below w6.heap.size w6 w7) := Lib.hid (next0 (next0 (below_alloc _ _) (below_alloc _ _)) g7)
  have D7 : Hid (Below w.heap.size w w7) := Lib.hid (next0 D6.out J7.out)
  have G7 := Lib.hid hv7
  obtain ⟨p7, c7, rfl⟩ := hv7.form
  clear hv7
  clear g7 C7
  have C8 := Lib.hid (ints_eq [2, 2, 2] (w7.alloc (.cells #[.int .i64 2, .int .i64 2, .int .i64 2] 3)) _ (.slice (some ⟨w7.heap.size, 0, none⟩) 3 3) (row_on G7.out (below_alloc _ _)) (lit_n w7 rfl [2, 2, 2] #[.int .i64 2, .int .i64 2, .int .i64 2] rfl (by decide) (tri_all (by decide))))
  go_wp2_with fail
  refine C8.out.mono ?_
  rintro e w8 ⟨rfl, g8⟩
  have J8 : Hid (Below w7.heap.size w7 w8) := Lib.hid (next0 (below_alloc _ _) g8)
  have D8 : Hid (Below w.heap.size w w8) := Lib.hid (next0 D7.out J8.out)
  clear g8 C8
  have C9 := Lib.hid (ref_is (a := [1, 0]) (b := [2, 0]) (x := true) (by decide) ((w8.alloc (.cells #[.int .i64 1, .int .i64 0] 3)).alloc (.cells #[.int .i64 2, .int .i64 0] 3)) (.slice (some ⟨w8.heap.size, 0, none⟩) 2 2) (.slice (some ⟨w8.heap.size + 1, 0, none⟩) 2 2) (lit_on _ (lit_n w8 rfl [1, 0] #[.int .i64 1, .int .i64 0] rfl (by decide) (tri_all (by decide)))) (lit_n (w8.alloc (.cells #[.int .i64 1, .int .i64 0] 3)) (by simp) [2, 0] #[.int .i64 2, .int .i64 0] rfl (by decide) (tri_all (by decide))))
  go_wp2_with fail
  refine C9.out.mono ?_
  rintro e w9 ⟨rfl, g9⟩
  have J9 : Hid (Below w8.heap.size w8 w9) := Lib.hid (next0 (next0 (below_alloc _ _) (below_alloc _ _)) g9)
  have D9 : Hid (Below w.heap.size w w9) := Lib.hid (next0 D8.out J9.out)
  clear g9 C9
  have C10 := Lib.hid (ref_is (a := [2, 0]) (b := [1, 0]) (x := false) (by decide) ((w9.alloc (.cells #[.int .i64 2, .int .i64 0] 3)).alloc (.cells #[.int .i64 1, .int .i64 0] 3)) (.slice (some ⟨w9.heap.size, 0, none⟩) 2 2) (.slice (some ⟨w9.heap.size + 1, 0, none⟩) 2 2) (lit_on _ (lit_n w9 rfl [2, 0] #[.int .i64 2, .int .i64 0] rfl (by decide) (tri_all (by decide)))) (lit_n (w9.alloc (.cells #[.int .i64 2, .int .i64 0] 3)) (by simp) [1, 0] #[.int .i64 1, .int .i64 0] rfl (by decide) (tri_all (by decide))))
  go_wp2_with fail
  refine C10.out.mono ?_
  rintro e w10 ⟨rfl, g10⟩
  have J10 : Hid (Below w9.heap.size w9 w10) := Lib.hid (next0 (next0 (below_alloc _ _) (below_alloc _ _)) g10)
  have D10 : Hid (Below w.heap.size w w10) := Lib.hid (next0 D9.out J10.out)
  clear g10 C10
  have DF := Lib.hid D10.out
  go_wp2_with fail
  go_ret
  exact ⟨rfl, DF.out⟩
end NetT5
end Go.Proofs.YtedilgnnfmplgaaDoor
