/- The contract of the reference's Sum over a list of fractions that lies in memory. No other conditions. -/
import Derived.Test.YtlamemhfnglfeaaDoorKit
import Derived.Test.YtlamemhfnglfeaaDoorFracG
import Derived.Test.YtlamemhfnglfeaaDoorFracU
import Derived.Deep.RegionHeld3
import Derived.Deep.DeepCutAuto
namespace Go.Proofs.YtlamemhfnglfeaaDoor
open Go Go.RowKit
namespace FracRS
open Kit FracM FracU
open FracB (fr)
theorem int_one (n : Int) (w : World) : Calls Tryd.prog 46 #[.int .i64 n] w fun e w' => e = .returned (.agg #[.int .i64 n, .int .i64 1]) ∧ Below w.heap.size w w' := by
  go_enter Tryd.func46, Tryd.ntmps46
  go_wp2_with fail
  obtain ⟨r0, r1, _, _, _⟩ := (Has.new w 23 #[.int .i64 n, .int .i64 1]).two
  refine bodyPost_ret (v := .agg #[.int .i64 n, .int .i64 1]) (by simp [results, Tryd.results46, go_sem, r0, r1]) rfl ?_
  exact ⟨rfl, FracB.below_alloc w _⟩

/-- What the round of the loop holds of the world while the order is drawn. -/
abbrev S (wr : World) (s b e : Nat) (x y u v : Int) (w' : World) : Prop := w'.cell? ⟨s, 0, none⟩ = some (.int .i64 x) ∧ w'.cell? ⟨s, 1, none⟩ = some (.int .i64 y) ∧ w'.cell? ⟨b, e, none⟩ = some (.int .i64 u) ∧ w'.cell? ⟨b, e + 1, none⟩ = some (.int .i64 v) ∧ Hid (Below wr.heap.size wr w') ∧ wr.heap.size ≤ w'.heap.size
theorem s_of {wr w' : World} {s b e : Nat} {x y u v : Int} (h1 : wr.cell? ⟨s, 0, none⟩ = some (.int .i64 x)) (h2 : wr.cell? ⟨s, 1, none⟩ = some (.int .i64 y)) (h3 : wr.cell? ⟨b, e, none⟩ = some (.int .i64 u)) (h4 : wr.cell? ⟨b, e + 1, none⟩ = some (.int .i64 v))
    (hs : s < wr.heap.size) (hb : b < wr.heap.size) (h : Below wr.heap.size wr w') : S wr s b e x y u v w' :=
  ⟨(h.cell (p := ⟨s, 0, none⟩) hs).trans h1, (h.cell (p := ⟨s, 1, none⟩) hs).trans h2, (h.cell (p := ⟨b, e, none⟩) hb).trans h3, (h.cell (p := ⟨b, e + 1, none⟩) hb).trans h4, Lib.hid h, h.size⟩

set_option maxRecDepth 100000 in
set_option maxHeartbeats 3200000 in
theorem sum_any (b off len cap : Nat) (l : List (Int × Int)) (w : World) (hl : l.length = len) (hlen : len ≤ 60) (hF : Fr w b off l) :
    Calls Tryd.prog 32 #[.slice (some ⟨b, off, none⟩) len cap] w fun e w' => e = .returned (fr (sumL l 0 1)) ∧ Below w.heap.size w w' := by
  generalize hM : sumL l 0 1 = m
  have HM := Lib.hid hM; clear hM
  go_enter Tryd.func32, Tryd.ntmps32
  go_wp2_with fail
  have k0 := FracB.below_alloc w (.cells #[.int .i64 0, .int .i64 0] 23)
  refine (int_one 0 _).mono ?_
  rintro e w2 ⟨rfl, k2⟩
  have R2 := Has.made k2
  have D2 := next0 k0 k2
  clear k0 k2
  go_wp2_with fail
  have hsz := R2.lt
  generalize hg : w2.heap.size = g at hsz
  go_loopw [11] (fun v11 wr => ∃ k : Nat, ∃ x y : Int, k ≤ len ∧ v11 = .int .i64 k ∧ (-9223372036854775808 ≤ x ∧ x ≤ 9223372036854775807) ∧ (-9223372036854775808 ≤ y ∧ y ≤ 9223372036854775807) ∧ Hid (sumL (l.drop k) x y = m) ∧ Hid (Has wr g #[.int .i64 x, .int .i64 y]) ∧ Hid (Has wr w.heap.size #[.int .i64 0, .int .i64 0]) ∧ Hid (Below w.heap.size w wr)) (fun v11 _ => len - (intOf v11).toNat)
  case atStart =>
    refine ⟨0, 0, 1, Nat.zero_le _, rfl, by omega, by omega, HM, ?_, ?_, ?_⟩
    · subst hg
      exact Has.new w2 _ _
    · exact R2.alloc _
    · exact D2.alloc (by have := D2.size; omega) _
  case round =>
    obtain ⟨k, x, y, hk, rfl, hx, hy, hS, hA, hR, hD⟩ := hrel
    by_cases hlt : k < len
    · obtain ⟨p, hp⟩ : ∃ p, l[k]? = some p := ⟨l[k]'(by omega), by simp⟩
      obtain ⟨b1, b2, b3, b4⟩ := (hF.below hD.out hF.1).2 k p hp
      obtain ⟨c1, c2, _, _, l1⟩ := hA.out.two
      have hb : b < wr.heap.size := Nat.lt_of_lt_of_le hF.1 hD.out.size
      have hr := fun w2 => FracG.doAdd x y p.1 p.2 w2 hx.1 hx.2 hy.1 hy.2 b3.1 b3.2 b4.1 b4.2
      have hri := addF_in x y p.1 p.2
      have hst : (if (addF x y p.1 p.2).2.2 = 0 then sumL (l.drop (k + 1)) (addF x y p.1 p.2).1 (addF x y p.1 p.2).2.1 else (0, 0, (addF x y p.1 p.2).2.2)) = m := by
        have := hS.out
        rw [drop_cons hp] at this
        exact this
      generalize addF x y p.1 p.2 = r at hr hri hst
      obtain ⟨x', y', z⟩ := r
      dsimp only at hri hst
      have Hr := Lib.hid hr
      clear hr hS hp
      go_upto_region 5 with fail
      have hs0 : S wr g b (off + k * 2) x y p.1 p.2 wr.drew := s_of c1 c2 b1 b2 l1 hb ((Below.refl _ _).drew)
      have Hb := Lib.hid (fun w' (h : Below wr.heap.size wr w') => (s_of c1 c2 b1 b2 l1 hb h : S wr g b (off + k * 2) x y p.1 p.2 w'))
      have Hk := Lib.hid (fun w1 w' (h1 : Hid (Below wr.heap.size wr w1)) (h : Below w1.heap.size w1 w') => (s_of c1 c2 b1 b2 l1 hb (next0 h1.out h) : S wr g b (off + k * 2) x y p.1 p.2 w'))
      go_cut [6, 7] (fun s6 s7 wx => ∃ h : Nat, s6 = .pointer (some ⟨h, 0, none⟩) ∧ s7 = .int .i64 z ∧ wr.heap.size ≤ h ∧ Hid (Has wx h #[.int .i64 x', .int .i64 y']) ∧ Hid (Below wr.heap.size wr wx))
      case first =>
        clear c1 c2 b1 b2
        go_region_held3 (fun w' => w'.cell? ⟨g, 0, none⟩ = some (.int .i64 x) ∧ w'.cell? ⟨g, 1, none⟩ = some (.int .i64 y) ∧ w'.cell? ⟨b, off + k * 2, none⟩ = some (.int .i64 p.1) ∧ w'.cell? ⟨b, off + k * 2 + 1, none⟩ = some (.int .i64 p.2) ∧ Hid (Below wr.heap.size wr w') ∧ wr.heap.size ≤ w'.heap.size)
          (first | exact hs0 | assumption | exact ⟨‹_›, ‹_›, ‹_›, ‹_›, ‹_›, ‹_›⟩ | (refine Hb.out _ ?_; repeat (first | exact Below.refl _ _ | exact Hid.out (by assumption) | refine Below.drew ?_ | refine next0 ?_ (FracB.below_alloc _ _) | refine Below.setCell ?_ (by simp; try omega) _)))
          (first | (go_at_call 44; go_split_ands; with_reducible refine (Hr.out _).mono ?_; rintro e w' ⟨rfl, q0⟩; (try (have hh := Lib.hid ((Has.new wr _ _).drew.step0 q0); have qh := ((Has.new wr _ _).drew.step0 q0).two; obtain ⟨t1, t2, t3, t4, t5⟩ := qh)); have q1 := Hk.out _ _ (by assumption) q0; clear q0; have qq := q1; obtain ⟨q1, q2, q3, q4, q5, q6⟩ := q1))
        all_goals
          go_wp2_with fail
          go_meet
          first
            | exact ⟨wr.heap.size, rfl, rfl, Nat.le_refl _, Lib.hid (has_put hh.out _ _), Lib.hid ((q5.out.setCell (p := ⟨wr.heap.size, 0, none⟩) (Nat.le_refl _) _).setCell (p := ⟨wr.heap.size, 1, none⟩) (Nat.le_refl _) _)⟩
            | exact ⟨_, rfl, rfl, q6, Lib.hid (Has.new _ _ _), Lib.hid (next0 q5.out (FracB.below_alloc _ _))⟩
      case rest =>
        clear hs0 Hb Hk c1 c2 b1 b2
        obtain ⟨h, rfl, rfl, hgh, hE, hB⟩ := hcut
        have A := hA.out.below hB.out (by omega)
        have R := hR.out.below hB.out (by omega)
        have D := next0 hD.out hB.out
        have E := hE.out
        clear hA hR hD hB hE
        obtain ⟨c1, c2, f1, f2, l2⟩ := A.two
        obtain ⟨c3, c4, f3, f4, l3⟩ := R.two
        obtain ⟨c5, c6, f5, f6, l4⟩ := E.two
        by_cases hz : z = 0
        case neg =>
          rw [if_neg hz] at hst
          subst hst
          have hz' : (z != 0) = true := by simpa using hz
          clear hz
          go_wp2_with fail
          have r0 := R.put0 (.int .i64 0) (.int .i64 0)
          have r1 := R.put1 (.int .i64 0) (.int .i64 0)
          refine bodyPost_ret (v := fr (0, 0, z)) (by simp [results, Tryd.results32, go_sem, r0, r1]) rfl ?_
          exact ⟨rfl, by repeat (first | exact D | refine Below.setCell ?_ (by simp) _)⟩
        case pos =>
          subst hz
          rw [if_pos rfl] at hst
          have HS := Lib.hid hst
          clear hst
          go_wp2_with fail
          go_roundw
          case rel =>
            refine ⟨k + 1, x', y', by omega, by go_num, by omega, by omega, HS, ?_, ?_, ?_⟩
            · exact has_put A _ _
            · exact (R.far (p := ⟨g, 0, none⟩) (by simp; omega) _).far (p := ⟨g, 1, none⟩) (by simp; omega) _
            · exact (D.setCell (p := ⟨g, 0, none⟩) (by simp; omega) _).setCell (p := ⟨g, 1, none⟩) (by simp; omega) _
          case measure => simp only [intOf]; omega
    · obtain rfl : k = len := by omega
      have hm : (x, y, 0) = m := by
        have := hS.out
        rw [List.drop_eq_nil_of_le (by omega)] at this
        exact this
      subst hm
      clear hS
      have A := hA.out
      have R := hR.out
      have D := hD.out
      clear hA hR hD
      obtain ⟨c5, c6, _, _, l2⟩ := A.two
      obtain ⟨c7, c8, f7, f8, l3⟩ := R.two
      go_wp2_with fail
      have r0 := R.put0 (.int .i64 x) (.int .i64 y)
      have r1 := R.put1 (.int .i64 x) (.int .i64 y)
      refine bodyPost_ret (v := fr (x, y, 0)) (by simp [results, Tryd.results32, go_sem, r0, r1]) rfl ?_
      exact ⟨rfl, by repeat (first | exact D | refine Below.setCell ?_ (by simp) _)⟩
end FracRS
end Go.Proofs.YtlamemhfnglfeaaDoor
