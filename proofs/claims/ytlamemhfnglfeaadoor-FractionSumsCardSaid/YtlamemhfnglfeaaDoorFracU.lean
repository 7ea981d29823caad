/- The contract of fraction.Sum over a list of fractions that lies in memory. No other conditions. -/
import Derived.Test.YtlamemhfnglfeaaDoorKit
import Derived.Test.YtlamemhfnglfeaaDoorFracF
namespace Go.Proofs.YtlamemhfnglfeaaDoor
open Go Go.RowKit
namespace FracU
open Kit FracM
open FracB (fr)

/-- The list l of fractions lies at an address, two cells each. -/
def Fr (w : World) (b off : Nat) (l : List (Int × Int)) : Prop :=
  b < w.heap.size ∧ ∀ i p, l[i]? = some p → w.cell? ⟨b, off + i * 2, none⟩ = some (.int .i64 p.1) ∧ w.cell? ⟨b, off + i * 2 + 1, none⟩ = some (.int .i64 p.2) ∧
    (-9223372036854775808 ≤ p.1 ∧ p.1 ≤ 9223372036854775807) ∧ -9223372036854775808 ≤ p.2 ∧ p.2 ≤ 9223372036854775807
theorem Fr.below {w w' : World} {b off : Nat} {l : List (Int × Int)} (h : Fr w b off l) {B : Nat} (hb : Below B w w') (hB : b < B) : Fr w' b off l := by
  refine ⟨Nat.lt_of_lt_of_le h.1 hb.size, fun i p hi => ?_⟩
  obtain ⟨h1, h2, h3⟩ := h.2 i p hi
  exact ⟨(hb.cell (p := ⟨b, off + i * 2, none⟩) hB).trans h1, (hb.cell (p := ⟨b, off + i * 2 + 1, none⟩) hB).trans h2, h3⟩

/-- What Sum answers from (x, y) on. -/
def sumL : List (Int × Int) → Int → Int → Int × Int × Int
  | [], x, y => (x, y, 0)
  | p :: ps, x, y => if (addF x y p.1 p.2).2.2 = 0 then sumL ps (addF x y p.1 p.2).1 (addF x y p.1 p.2).2.1 else (0, 0, (addF x y p.1 p.2).2.2)
theorem addF_in (a b c d : Int) : (-1073741824 ≤ (addF a b c d).1 ∧ (addF a b c d).1 ≤ 1073741824) ∧ -1073741824 ≤ (addF a b c d).2.1 ∧ (addF a b c d).2.1 ≤ 1073741824 := by
  unfold addF
  split
  · exact mk_in _ _
  · simp

theorem has_put {w : World} {g : Nat} {a b : Value} (h : Has w g #[a, b]) (u v : Value) : Has ((w.setCell ⟨g, 0, none⟩ u).setCell ⟨g, 1, none⟩ v) g #[u, v] := (h.set 0 u).set 1 v
theorem drop_cons {l : List (Int × Int)} {k : Nat} {p : Int × Int} (h : l[k]? = some p) : l.drop k = p :: l.drop (k + 1) := by
  obtain ⟨hk, rfl⟩ := List.getElem?_eq_some_iff.1 h
  exact List.drop_eq_getElem_cons hk

set_option maxRecDepth 100000 in
set_option maxHeartbeats 3200000 in
theorem sum_any (b off len cap : Nat) (l : List (Int × Int)) (w : World) (hl : l.length = len) (hlen : len ≤ 60) (hF : Fr w b off l) :
    Calls Tryd.prog 30 #[.slice (some ⟨b, off, none⟩) len cap] w fun e w' => e = .returned (fr (sumL l 0 1)) ∧ Below w.heap.size w w' := by
  generalize hM : sumL l 0 1 = m
  have HM := Lib.hid hM; clear hM
  go_enter Tryd.func30, Tryd.ntmps30
  go_wp2_with fail
  go_loopw [12] (fun v12 wr => ∃ k : Nat, ∃ x y : Int, k ≤ len ∧ v12 = .int .i64 k ∧ (-9223372036854775808 ≤ x ∧ x ≤ 9223372036854775807) ∧ (-9223372036854775808 ≤ y ∧ y ≤ 9223372036854775807) ∧ Hid (sumL (l.drop k) x y = m) ∧ Hid (Has wr (w.heap.size + 1) #[.int .i64 x, .int .i64 y]) ∧ Hid (Has wr w.heap.size #[.int .i64 0, .int .i64 0]) ∧ Hid (Below w.heap.size w wr)) (fun v12 _ => len - (intOf v12).toNat)
  case atStart =>
    refine ⟨0, 0, 1, Nat.zero_le _, rfl, by omega, by omega, HM, ?_, ?_, ?_⟩
    · exact Has.new1 w _ _ _
    · exact (Has.new w _ _).alloc _
    · exact (below_alloc w _).alloc (by simp) _
  case round =>
    obtain ⟨k, x, y, hk, rfl, hx, hy, hS, hA, hR, hD⟩ := hrel
    by_cases hlt : k < len
    · obtain ⟨p, hp⟩ : ∃ p, l[k]? = some p := ⟨l[k]'(by omega), by simp⟩
      obtain ⟨b1, b2, b3, b4⟩ := (hF.below hD.out hF.1).2 k p hp
      obtain ⟨c1, c2, _, _, l1⟩ := hA.out.two
      have hr := fun w2 => FracF.add_any x y p.1 p.2 w2 hx.1 hx.2 hy.1 hy.2 b3.1 b3.2 b4.1 b4.2
      have hri := addF_in x y p.1 p.2
      have hst : (if (addF x y p.1 p.2).2.2 = 0 then sumL (l.drop (k + 1)) (addF x y p.1 p.2).1 (addF x y p.1 p.2).2.1 else (0, 0, (addF x y p.1 p.2).2.2)) = m := by
        have := hS.out
        rw [drop_cons hp] at this
        exact this
      generalize addF x y p.1 p.2 = r at hr hri hst
      obtain ⟨x', y', z⟩ := r
      dsimp only at hri hst
      have Hr := Lib.hid hr
      clear hr hS hp
      by_cases hz : z = 0
      case neg =>
        rw [if_neg hz] at hst
        subst hst
        have hz' : (z != 0) = true := by simpa using hz
        clear hz
        go_wp2_with fail
        refine (Hr.out _).mono ?_
        rintro e w2 ⟨rfl, k2⟩
        have A := hA.out.step k2
        have R := (hR.out.step k2).alloc (.cells #[.int .i64 x', .int .i64 y'] 23)
        have D := next0 (next1 hD.out k2) (below_alloc _ (.cells #[.int .i64 x', .int .i64 y'] 23))
        clear hA hR hD c1 c2 b1 b2 k2
        obtain ⟨c5, c6, f5, f6, l2⟩ := R.two
        obtain ⟨c7, c8, _, _, l3⟩ := A.two
        go_wp2_with fail
        have r0 := R.put0 (.int .i64 0) (.int .i64 0)
        have r1 := R.put1 (.int .i64 0) (.int .i64 0)
        refine bodyPost_ret (v := fr (0, 0, z)) (by simp [results, Tryd.results30, go_sem, r0, r1]) rfl ?_
        exact ⟨rfl, by repeat (first | exact D | refine Below.setCell ?_ (by simp) _)⟩
      case pos =>
        subst hz
        rw [if_pos rfl] at hst
        have HS := Lib.hid hst
        clear hst
        go_wp2_with fail
        refine (Hr.out _).mono ?_
        rintro e w2 ⟨rfl, k2⟩
        have A := hA.out.step k2
        have R := hR.out.step k2
        have D := next1 hD.out k2
        clear hA hR hD c1 c2 b1 b2 k2
        obtain ⟨c5, c6, f5, f6, l2⟩ := A.two
        go_wp2_with fail
        go_roundw
        case rel =>
          refine ⟨k + 1, x', y', by omega, by go_num, by omega, by omega, HS, ?_, ?_, ?_⟩
          · exact (has_put A _ _).alloc _
          · exact ((R.far (p := ⟨w.heap.size + 1, 0, none⟩) (by simp) _).far (p := ⟨w.heap.size + 1, 1, none⟩) (by simp) _).alloc _
          · exact (((D.setCell (p := ⟨w.heap.size + 1, 0, none⟩) (by simp) _).setCell (p := ⟨w.heap.size + 1, 1, none⟩) (by simp) _).alloc (by have := D.size; simp; omega) _)
        case measure => simp only [intOf]; omega
    · obtain rfl : k = len := by omega
      have hm : (x, y, 0) = m := by
        have := hS.out
        rw [List.drop_eq_nil_of_le (by omega)] at this
        exact this
      subst hm
      clear hS
      have A := hA.out
      have R := hR.out
      have D := hD.out
      clear hA hR hD
      obtain ⟨c5, c6, _, _, l2⟩ := A.two
      obtain ⟨c7, c8, f7, f8, l3⟩ := R.two
      go_wp2_with fail
      have r0 := R.put0 (.int .i64 x) (.int .i64 y)
      have r1 := R.put1 (.int .i64 x) (.int .i64 y)
      refine bodyPost_ret (v := fr (x, y, 0)) (by simp [results, Tryd.results30, go_sem, r0, r1]) rfl ?_
      exact ⟨rfl, by repeat (first | exact D | refine Below.setCell ?_ (by simp) _)⟩
end FracU
end Go.Proofs.YtlamemhfnglfeaaDoor
