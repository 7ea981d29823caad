/- FractionSums' walk. -/
import Derived.Test.YtlamemhfnglfeaaDoorKit
import Derived.Test.YtlamemhfnglfeaaDoorFracV
import Derived.Test.YtlamemhfnglfeaaDoorFracRM
import Derived.Test.YtlamemhfnglfeaaDoorFracSP
import Derived.Test.YtlamemhfnglfeaaDoorFracO2
import Derived.Test.YtlamemhfnglfeaaDoorFracW
import Derived.Deep.RegionHeld3
import Derived.Deep.DeepCutAuto
namespace Go.Proofs.YtlamemhfnglfeaaDoor
open Go Go.RowKit
namespace FracL6
open Kit FracM FracN FracP FracU FracV FracRM FracSP
open FracB (fr)
open FracT (Tab tab_below)
theorem meanL_in (l : List (Int × Int)) : (-1073741824 ≤ (meanL l).1 ∧ (meanL l).1 ≤ 1073741824) ∧ -1073741824 ≤ (meanL l).2.1 ∧ (meanL l).2.1 ≤ 1073741824 := by
  unfold meanL
  split
  · simp
  · split
    · exact mk_in _ _
    · simp
/-- lo and hi bound the first k members of the list. -/
def Inv (l : List (Int × Int)) (k : Nat) (lo hi : Int × Int) : Prop := vld lo.1 lo.2 = true ∧ vld hi.1 hi.2 = true ∧ ∀ (j : Nat) (q : Int × Int), j < k → l[j]? = some q → cmpF lo.1 lo.2 q.1 q.2 ≤ 0 ∧ cmpF q.1 q.2 hi.1 hi.2 ≤ 0
theorem min_facts {a b c d : Int} (h1 : vld a b = true) (h2 : vld c d = true) : vld (FracO2.minF a b c d).1 (FracO2.minF a b c d).2 = true ∧ cmpF (FracO2.minF a b c d).1 (FracO2.minF a b c d).2 a b ≤ 0 ∧ cmpF (FracO2.minF a b c d).1 (FracO2.minF a b c d).2 c d ≤ 0 := by
  unfold FracO2.minF
  split
  · exact ⟨h2, by dsimp only; rw [cmp_le]; omega, by dsimp only; rw [cmp_le]; omega⟩
  · exact ⟨h1, by dsimp only; rw [cmp_le]; omega, by dsimp only; rw [cmp_le]; omega⟩
theorem max_facts {a b c d : Int} (h1 : vld a b = true) (h2 : vld c d = true) : vld (FracO2.maxF a b c d).1 (FracO2.maxF a b c d).2 = true ∧ cmpF a b (FracO2.maxF a b c d).1 (FracO2.maxF a b c d).2 ≤ 0 ∧ cmpF c d (FracO2.maxF a b c d).1 (FracO2.maxF a b c d).2 ≤ 0 := by
  unfold FracO2.maxF
  split
  · exact ⟨h2, by dsimp only; rw [cmp_le]; omega, by dsimp only; rw [cmp_le]; omega⟩
  · exact ⟨h1, by dsimp only; rw [cmp_le]; omega, by dsimp only; rw [cmp_le]; omega⟩
theorem Inv.next {l : List (Int × Int)} {k : Nat} {lo hi q : Int × Int} (h : Inv l k lo hi) (hq : l[k]? = some q) (hv : vld q.1 q.2 = true) (ha : ∀ p ∈ l, vld p.1 p.2 = true) :
    Inv l (k + 1) (FracO2.minF lo.1 lo.2 q.1 q.2) (FracO2.maxF hi.1 hi.2 q.1 q.2) := by
  obtain ⟨h1, h2, h3⟩ := h
  obtain ⟨n1, n2, n3⟩ := min_facts h1 hv
  obtain ⟨x1, x2, x3⟩ := max_facts h2 hv
  refine ⟨n1, x1, fun j r hj hr => ?_⟩
  have hr' := ha r (List.mem_of_getElem? hr)
  by_cases e : j = k
  · subst e
    obtain rfl : q = r := Option.some.inj (hq.symm.trans hr)
    exact ⟨n3, x3⟩
  · obtain ⟨y1, y2⟩ := h3 j r (by omega) hr
    exact ⟨cmp_trans n1 h1 hr' n2 y1, cmp_trans hr' h2 x1 y2 x2⟩
theorem Inv.all {l : List (Int × Int)} {lo hi : Int × Int} (h : Inv l l.length lo hi) : (∀ p ∈ l, cmpF lo.1 lo.2 p.1 p.2 ≤ 0) ∧ ∀ p ∈ l, cmpF p.1 p.2 hi.1 hi.2 ≤ 0 := by
  constructor <;> intro p hp <;> (obtain ⟨j, hj, rfl⟩ := List.mem_iff_getElem.1 hp)
  · exact (h.2.2 j _ hj (by simp)).1
  · exact (h.2.2 j _ hj (by simp)).2

/-- What a region holds of the world while the order is drawn: one member of the list. -/
abbrev S1 (wr : World) (b e : Nat) (u v : Int) (w' : World) : Prop := w'.cell? ⟨b, e, none⟩ = some (.int .i64 u) ∧ w'.cell? ⟨b, e + 1, none⟩ = some (.int .i64 v) ∧ Hid (Below wr.heap.size wr w') ∧ wr.heap.size ≤ w'.heap.size
theorem s1_of {wr w' : World} {b e : Nat} {u v : Int} (h3 : wr.cell? ⟨b, e, none⟩ = some (.int .i64 u)) (h4 : wr.cell? ⟨b, e + 1, none⟩ = some (.int .i64 v))
    (hb : b < wr.heap.size) (h : Below wr.heap.size wr w') : S1 wr b e u v w' :=
  ⟨(h.cell (p := ⟨b, e, none⟩) hb).trans h3, (h.cell (p := ⟨b, e + 1, none⟩) hb).trans h4, Lib.hid h, h.size⟩

set_option maxRecDepth 100000 in
set_option maxHeartbeats 3200000 in
theorem sums_some (b off len cap : Nat) (l : List (Int × Int)) (w : World) (hl : l.length = len) (hlen : len ≤ 60) (hF : Fr w b off l) (ht : Tab w) :
    Calls Tryd.prog 7 #[.slice (some ⟨b, off, none⟩) len cap] w fun e w' => e = .returned (.bool true) ∧ Below w.heap.size w w' := by
  have p1 := fun w2 (h : Fr w2 b off l) => FracU.sum_any b off len cap l w2 hl hlen h
  have p2 : ∀ w2, Fr w2 b off l → Calls Tryd.prog 31 #[.slice (some ⟨b, off, none⟩) len cap] w2 fun e w' => e = .returned (fr (meanL l)) ∧ Below w2.heap.size w2 w' := fun w2 h => by
    by_cases h0 : len = 0
    · have e : meanL l = (0, 0, 13) := by unfold meanL; rw [if_pos (by omega)]
      rw [e]
      subst h0
      exact FracV.mean_nil _ w2 (Or.inr ⟨b, off, cap, rfl⟩)
    · exact FracV.mean_some b off len cap l w2 hl h0 hlen h
  have p3 := fun w2 (h : Fr w2 b off l) => FracRS.sum_any b off len cap l w2 hl hlen h
  have p4 : ∀ w2, Fr w2 b off l → Calls Tryd.prog 33 #[.slice (some ⟨b, off, none⟩) len cap] w2 fun e w' => e = .returned (fr (meanL l)) ∧ Below w2.heap.size w2 w' := fun w2 h => by
    rw [← mean_eq l (by omega)]
    by_cases h0 : len = 0
    · have e : meanR l = (0, 0, 13) := by unfold meanR; rw [if_pos (by omega)]
      rw [e]
      subst h0
      exact FracRM.mean_nil _ w2 (Or.inr ⟨b, off, cap, rfl⟩)
    · exact FracRM.mean_some b off len cap l w2 hl h0 hlen h
  have hbw := fun h => @mean_between l h
  have hall := @mean_all l
  have hmi := meanL_in l
  have hsa := sum_all l 0 1
  generalize sumL l 0 1 = s at p1 p3 hall hsa
  generalize meanL l = m at p2 p4 hbw hall hmi
  obtain ⟨s1, s2, s3⟩ := s
  obtain ⟨m1, m2, m3⟩ := m
  dsimp only at hbw hall hsa hmi
  have P1 := Lib.hid p1
  have P2 := Lib.hid p2
  have P3 := Lib.hid p3
  have P4 := Lib.hid p4
  have HB := Lib.hid hbw
  clear p1 p2 p3 p4 hbw
  go_enter Tryd.func7, Tryd.ntmps7
  go_wp2_with fail
  refine (P1.out _ hF).mono ?_
  rintro e w1 ⟨rfl, k1⟩
  have F1 := hF.below k1 hF.1
  have D1 := k1
  clear k1
  generalize hg1 : w1.heap.size = g1
  have A : Has (w1.alloc (.cells #[.int .i64 s1, .int .i64 s2] 23)) g1 #[.int .i64 s1, .int .i64 s2] := by subst hg1; exact Has.new _ _ _
  go_wp2_with fail
  have F1' := F1.below (FracB.below_alloc w1 (.cells #[.int .i64 s1, .int .i64 s2] 23)) F1.1
  refine (P2.out _ F1').mono ?_
  rintro e w2 ⟨rfl, k2⟩
  replace A := A.step0 k2
  have F2 := F1'.below k2 F1'.1
  have D2 := next1 D1 k2
  clear k2 F1 F1' D1 hg1
  generalize hg2 : w2.heap.size = g2
  have hg12 : g1 < g2 := by have := A.lt; omega
  have B : Has (w2.alloc (.cells #[.int .i64 m1, .int .i64 m2] 23)) g2 #[.int .i64 m1, .int .i64 m2] := by subst hg2; exact Has.new _ _ _
  go_wp2_with fail
  have F2' := F2.below (FracB.below_alloc w2 (.cells #[.int .i64 m1, .int .i64 m2] 23)) F2.1
  refine (P3.out _ F2').mono ?_
  rintro e w3 ⟨rfl, k3⟩
  replace A := A.step k3
  replace B := B.step0 k3
  have F3 := F2'.below k3 F2'.1
  have D3 := next1 D2 k3
  clear k3 F2 F2' D2 hg2
  generalize hg3 : w3.heap.size = g3
  have hg23 : g2 < g3 := by have := B.lt; omega
  have C : Has (w3.alloc (.cells #[.int .i64 s1, .int .i64 s2] 23)) g3 #[.int .i64 s1, .int .i64 s2] := by subst hg3; exact Has.new _ _ _
  go_wp2_with fail
  have F3' := F3.below (FracB.below_alloc w3 (.cells #[.int .i64 s1, .int .i64 s2] 23)) F3.1
  refine (P4.out _ F3').mono ?_
  rintro e w4 ⟨rfl, k4⟩
  replace A := A.step k4
  replace B := B.step k4
  replace C := C.step0 k4
  have F4 := F3'.below k4 F3'.1
  have D4 := next1 D3 k4
  have ht4 := tab_below ht D4
  clear k4 F3 F3' D3 hg3 P1 P2 P3 P4
  obtain ⟨a1, a2, _, _, l1⟩ := A.two
  obtain ⟨b1, b2, _, _, l2⟩ := B.two
  obtain ⟨c1, c2, _, _, l3⟩ := C.two
  by_cases hz : m3 = 0
  case neg =>
    have hz' : (m3 != 0) = true := by simpa using hz
    go_wp2_with fail
    have D5 := next0 D4 (FracB.below_alloc w4 (.cells #[.int .i64 m1, .int .i64 m2] 23))
    refine (FracW.awake_any _ (tab_below ht D5)).mono ?_
    rintro e w5 ⟨rfl, k5⟩
    go_wp2_with fail
    go_ret
    exact ⟨rfl, next0 D5 k5⟩
  case pos =>
    subst hz
    have hnz := (hall rfl).2
    have hsz := (hall rfl).1
    go_upto_region 11 with fail
    have D5 := next0 D4 (FracB.below_alloc w4 (.cells #[.int .i64 m1, .int .i64 m2] 23))
    have F5 := F4.below (FracB.below_alloc w4 (.cells #[.int .i64 m1, .int .i64 m2] 23)) F4.1
    have B5 := B.alloc (.cells #[.int .i64 m1, .int .i64 m2] 23)
    clear A B C a1 a2 b1 b2 c1 c2 l1 l2 l3 D4 F4 ht4
    generalize w4.heap.size = g4
    generalize w4.alloc (.cells #[.int .i64 m1, .int .i64 m2] 23) = wA at *
    obtain ⟨p, hp⟩ : ∃ p, l[0]? = some p := ⟨l[0]'(by omega), by simp⟩
    obtain ⟨b1, b2, b3, b4⟩ := F5.2 0 p hp
    have hpos : 0 < len := by omega
    go_cut [11, 12] (fun s11 s12 wx => ∃ h1 h2 : Nat, s11 = .pointer (some ⟨h1, 0, none⟩) ∧ s12 = .pointer (some ⟨h2, 0, none⟩) ∧ h1 ≠ h2 ∧ wA.heap.size ≤ h1 ∧ wA.heap.size ≤ h2 ∧ Hid (Has wx h1 #[.int .i64 p.1, .int .i64 p.2]) ∧ Hid (Has wx h2 #[.int .i64 p.1, .int .i64 p.2]) ∧ Hid (Below wA.heap.size wA wx))
    case first =>
      simp only [Nat.zero_mul, Nat.add_zero] at b1 b2
      have hs0 : S1 wA b off p.1 p.2 wA.drew := s1_of b1 b2 F5.1 ((Below.refl _ _).drew)
      have Hb := Lib.hid (fun w' (h : Below wA.heap.size wA w') => (s1_of b1 b2 F5.1 h : S1 wA b off p.1 p.2 w'))
      clear b1 b2
      go_region_held3 (fun w' => w'.cell? ⟨b, off, none⟩ = some (.int .i64 p.1) ∧ w'.cell? ⟨b, off + 1, none⟩ = some (.int .i64 p.2) ∧ Hid (Below wA.heap.size wA w') ∧ wA.heap.size ≤ w'.heap.size)
        (first | exact hs0 | assumption | (refine Hb.out _ ?_; repeat (first | exact Below.refl _ _ | exact Hid.out (by assumption) | refine Below.drew ?_ | refine next0 ?_ (FracB.below_alloc _ _) | refine Below.setCell ?_ (by simp; try omega) _)))
        (first | (fail))
      all_goals
        go_wp2_with fail
        go_meet
        first
          | exact ⟨_, _, rfl, rfl, by omega, by omega, by omega, Lib.hid ((Has.new wA _ _).alloc _).drew, Lib.hid (Has.new1 wA _ _ _).drew, Lib.hid (next0 (FracB.below_alloc wA _) (FracB.below_alloc _ _)).drew⟩
          | exact ⟨_, _, rfl, rfl, by omega, by omega, by omega, Lib.hid (Has.new1 wA _ _ _).drew, Lib.hid ((Has.new wA _ _).alloc _).drew, Lib.hid (next0 (FracB.below_alloc wA _) (FracB.below_alloc _ _)).drew⟩
    case rest =>
      obtain ⟨h1, h2, rfl, rfl, hne, hh1, hh2, hA, hC, hB⟩ := hcut
      have ha := hsa hsz
      have hv0 := ha p (List.mem_of_getElem? hp)
      have HA := Lib.hid ha
      clear ha hsa hall
      go_wp2_with fail
      go_loopw [67] (fun v67 wL => ∃ k : Nat, ∃ lo hi : Int × Int, k ≤ len ∧ v67 = .int .i64 k ∧ Hid (Inv l k lo hi) ∧ Hid (Has wL h1 #[.int .i64 lo.1, .int .i64 lo.2]) ∧ Hid (Has wL h2 #[.int .i64 hi.1, .int .i64 hi.2]) ∧ Hid (Below wA.heap.size wA wL)) (fun v67 _ => len - (intOf v67).toNat)
      case atStart =>
        exact ⟨0, p, p, Nat.zero_le _, rfl, Lib.hid ⟨hv0, hv0, fun j q hj => absurd hj (Nat.not_lt_zero _)⟩, hA, hC, hB⟩
      case round =>
        obtain ⟨k, lo, hi, hk, rfl, hI, hA, hC, hB⟩ := hrel
        by_cases hlt : k < len
        · obtain ⟨q, hq⟩ : ∃ q, l[k]? = some q := ⟨l[k]'(by omega), by simp⟩
          obtain ⟨e1, e2, e3, e4⟩ := ((F5.below hB.out F5.1).2 k q hq)
          have hvq := HA.out q (List.mem_of_getElem? hq)
          have hnx := hI.out.next hq hvq HA.out
          have il := vld_in hI.out.1
          have ih := vld_in hI.out.2.1
          have iq := vld_in hvq
          have qn := Lib.hid (fun w9 => FracO2.min_any lo.1 lo.2 q.1 q.2 w9 il.1 il.2.1 iq.1 iq.2.1)
          have qx := Lib.hid (fun w9 => FracO2.max_any hi.1 hi.2 q.1 q.2 w9 ih.1 ih.2.1 iq.1 iq.2.1)
          have HN := Lib.hid hnx
          generalize FracO2.minF lo.1 lo.2 q.1 q.2 = lo' at qn HN
          generalize FracO2.maxF hi.1 hi.2 q.1 q.2 = hi' at qx HN
          obtain ⟨A1, A2, A3, A4, A5⟩ := hA.out.two
          obtain ⟨C1, C2, C3, C4, C5⟩ := hC.out.two
          clear hnx hI il ih iq hvq
          obtain ⟨lo1, lo2⟩ := lo
          obtain ⟨hi1, hi2⟩ := hi
          obtain ⟨q1, q2⟩ := q
          dsimp only at *
          have hbr : b < wA.heap.size := F5.1
          have hbb : b < wr.heap.size := Nat.lt_of_lt_of_le F5.1 hB.out.size
          have T : Below wr.heap.size wr wr := Below.refl _ _
          have HH := Lib.hid (fun w9 (t : Below wr.heap.size wr w9) => (⟨(hA.out.below t A5).two, (hC.out.below t C5).two, (t.cell (p := ⟨b, off + k * 2, none⟩) hbb).trans e1, (t.cell (p := ⟨b, off + k * 2 + 1, none⟩) hbb).trans e2⟩ : (_ ∧ _ ∧ _ ∧ _ ∧ _) ∧ (_ ∧ _ ∧ _ ∧ _ ∧ _) ∧ _ ∧ _))
          go_upto_region 15 with fail
          obtain ⟨lo'1, lo'2⟩ := lo'
          obtain ⟨hi'1, hi'2⟩ := hi'
          dsimp only at qn qx HN
          obtain ⟨c1, c2, _, _⟩ := F5.2 k (q1, q2) hq
          dsimp only at c1 c2
          have A5' := A5
          have C5' := C5
          have t0 : Below wr.heap.size wr wr.drew := T.drew
          have hS0 : S1 wA b (off + k * 2) q1 q2 wr.drew := s1_of c1 c2 F5.1 (hB.out.drew)
          clear e1 e2 e3 e4
          refine wp_region_held_drew (S := (fun w' => w'.cell? ⟨b, off + k * 2, none⟩ = some (.int .i64 q1) ∧ w'.cell? ⟨b, off + k * 2 + 1, none⟩ = some (.int .i64 q2) ∧ Hid (Below wA.heap.size wA w') ∧ wA.heap.size ≤ w'.heap.size)) (by kernel_rfl) hS0 (fun hHeld => ?_)
          refine wpAnyH_take (i := 1) (v := ?_) rfl (by kernel_rfl) (by kernel_rfl) (by kernel_rfl) (fun _ _ _ h => h) (Or.inl ⟨by rfl, ?_⟩) (by assumption) ?_
          rotate_left
          · intro w' hSw; (try dsimp only at hSw); simp only [List.getElem_toArray, List.getElem_cons_zero, List.getElem_cons_succ]; go_simp; try with_reducible rfl
          simp only [List.getElem_toArray, List.getElem_cons_zero, List.getElem_cons_succ, Act.put, List.setIfInBounds_toArray, List.set_cons_zero, List.set_cons_succ]
          refine wpAnyH_take (i := 2) (v := ?_) rfl (by kernel_rfl) (by kernel_rfl) (by kernel_rfl) (fun _ _ _ h => h) (Or.inl ⟨by rfl, ?_⟩) (by assumption) ?_
          rotate_left
          · intro w' hSw; (try dsimp only at hSw); simp only [List.getElem_toArray, List.getElem_cons_zero, List.getElem_cons_succ]; go_simp; try with_reducible rfl
          simp only [List.getElem_toArray, List.getElem_cons_zero, List.getElem_cons_succ, Act.put, List.setIfInBounds_toArray, List.set_cons_zero, List.set_cons_succ]
          refine wpAnyH_take (i := 3) (v := ?_) rfl (by kernel_rfl) (by kernel_rfl) (by kernel_rfl) (fun _ _ _ h => h) (Or.inl ⟨by rfl, ?_⟩) (by assumption) ?_
          rotate_left
          · intro w' hSw; (try dsimp only at hSw); simp only [List.getElem_toArray, List.getElem_cons_zero, List.getElem_cons_succ]; go_simp; try with_reducible rfl
          simp only [List.getElem_toArray, List.getElem_cons_zero, List.getElem_cons_succ, Act.put, List.setIfInBounds_toArray, List.set_cons_zero, List.set_cons_succ]
          refine wpAnyH_take (i := 4) (v := ?_) rfl (by kernel_rfl) (by kernel_rfl) (by kernel_rfl) (fun _ _ _ h => h) (Or.inl ⟨by rfl, ?_⟩) (by assumption) ?_
          rotate_left
          · intro w' hSw; (try dsimp only at hSw); simp only [List.getElem_toArray, List.getElem_cons_zero, List.getElem_cons_succ]; go_simp; try with_reducible rfl
          simp only [List.getElem_toArray, List.getElem_cons_zero, List.getElem_cons_succ, Act.put, List.setIfInBounds_toArray, List.set_cons_zero, List.set_cons_succ]
          refine wpAnyH_take (i := 7) (v := ?_) rfl (by kernel_rfl) (by kernel_rfl) (by kernel_rfl) (fun _ _ _ h => h) (Or.inl ⟨by rfl, ?_⟩) (by assumption) ?_
          rotate_left
          · intro w' hSw; (try dsimp only at hSw); simp only [List.getElem_toArray, List.getElem_cons_zero, List.getElem_cons_succ]; go_simp; try with_reducible rfl
          simp only [List.getElem_toArray, List.getElem_cons_zero, List.getElem_cons_succ, Act.put, List.setIfInBounds_toArray, List.set_cons_zero, List.set_cons_succ]
          refine wpAnyH_take (i := 8) (v := ?_) rfl (by kernel_rfl) (by kernel_rfl) (by kernel_rfl) (fun _ _ _ h => h) (Or.inl ⟨by rfl, ?_⟩) (by assumption) ?_
          rotate_left
          · intro w' hSw; (try dsimp only at hSw); simp only [List.getElem_toArray, List.getElem_cons_zero, List.getElem_cons_succ]; go_simp; try with_reducible rfl
          simp only [List.getElem_toArray, List.getElem_cons_zero, List.getElem_cons_succ, Act.put, List.setIfInBounds_toArray, List.set_cons_zero, List.set_cons_succ]
          refine wpAnyH_take (i := 9) (v := ?_) rfl (by kernel_rfl) (by kernel_rfl) (by kernel_rfl) (fun _ _ _ h => h) (Or.inl ⟨by rfl, ?_⟩) (by assumption) ?_
          rotate_left
          · intro w' hSw; (try dsimp only at hSw); simp only [List.getElem_toArray, List.getElem_cons_zero, List.getElem_cons_succ]; go_simp; try with_reducible rfl
          simp only [List.getElem_toArray, List.getElem_cons_zero, List.getElem_cons_succ, Act.put, List.setIfInBounds_toArray, List.set_cons_zero, List.set_cons_succ]
          refine wpAnyH_take (i := 10) (v := ?_) rfl (by kernel_rfl) (by kernel_rfl) (by kernel_rfl) (fun _ _ _ h => h) (Or.inl ⟨by rfl, ?_⟩) (by assumption) ?_
          rotate_left
          · intro w' hSw; (try dsimp only at hSw); simp only [List.getElem_toArray, List.getElem_cons_zero, List.getElem_cons_succ]; go_simp; try with_reducible rfl
          simp only [List.getElem_toArray, List.getElem_cons_zero, List.getElem_cons_succ, Act.put, List.setIfInBounds_toArray, List.set_cons_zero, List.set_cons_succ]
          refine wpAnyH_ready (rs := [0, 6]) (by kernel_rfl) (by simp) ?_
          refine AllReadyH.cons rfl (fun K hK => ?_) ?_
          · go_simp
            refine hK.out _ _ hHeld (fun hHeld => ?_)
            clear hK K
            try simp only [Act.put, List.setIfInBounds_toArray, List.set_cons_zero, List.set_cons_succ]
            refine wpAnyH_ready (rs := [5, 6]) (by kernel_rfl) (by simp) ?_
            refine AllReadyH.cons rfl (fun K hK => ?_) ?_
            · go_simp
              refine (qn.out _).mono ?_
              rintro e w7 ⟨rfl, k7⟩
              have t7 := Below.trans t0 (k7.mono (Nat.le_of_eq rfl))
              have hb7 := hB.out.trans (t7.mono hB.out.size)
              obtain ⟨⟨A1, A2, A3, A4, A5⟩, ⟨C1, C2, C3, C4, C5⟩, _, _⟩ := HH.out _ t7
              refine hK.out _ _ (s1_of c1 c2 F5.1 hb7) (fun hHeld => ?_)
              clear hK K
              try simp only [Act.put, List.setIfInBounds_toArray, List.set_cons_zero, List.set_cons_succ]
              refine wpAnyH_ready (rs := [6]) (by kernel_rfl) (by simp) ?_
              refine AllReadyH.cons rfl (fun K hK => ?_) AllReadyH.nil
              go_simp
              refine hK.out _ _ hHeld (fun hHeld => ?_)
              clear hK K
              try simp only [Act.put, List.setIfInBounds_toArray, List.set_cons_zero, List.set_cons_succ]
              refine wpAnyH_ready (rs := [11]) (by kernel_rfl) (by simp) ?_
              refine AllReadyH.cons rfl (fun K hK => ?_) AllReadyH.nil
              go_simp
              refine (qx.out _).mono ?_
              rintro e w8 ⟨rfl, k8⟩
              have t8 := Below.trans t7 (k8.mono t7.size)
              have hb8 := hB.out.trans (t8.mono hB.out.size)
              obtain ⟨⟨A1, A2, A3, A4, A5⟩, ⟨C1, C2, C3, C4, C5⟩, _, _⟩ := HH.out _ t8
              refine hK.out _ _ (s1_of c1 c2 F5.1 hb8) (fun hHeld => ?_)
              clear hK K
              try simp only [Act.put, List.setIfInBounds_toArray, List.set_cons_zero, List.set_cons_succ]
              have hA8 := hA.out.below t8 A5'
              have hC8 := hC.out.below t8 C5'
              have Y1 := (hA8.set 0 (.int .i64 lo'1)).set 1 (.int .i64 lo'2)
              have Y2 := (hC8.far (p := ⟨h1, 0, none⟩) (by simpa using Ne.symm hne) (.int .i64 lo'1)).far (p := ⟨h1, 1, none⟩) (by simpa using Ne.symm hne) (.int .i64 lo'2)
              have Y3 := (hb8.setCell (p := ⟨h1, 0, none⟩) hh1 (.int .i64 lo'1)).setCell (p := ⟨h1, 1, none⟩) hh1 (.int .i64 lo'2)
              refine wpAnyH_ready (rs := [12]) (by kernel_rfl) (by simp) ?_
              refine AllReadyH.cons rfl (fun K hK => ?_) AllReadyH.nil
              go_simp
              refine hK.out _ _ (s1_of c1 c2 F5.1 Y3) (fun hHeld => ?_)
              clear hK K
              try simp only [Act.put, List.setIfInBounds_toArray, List.set_cons_zero, List.set_cons_succ]
              have y1 := Y2.cell 0
              have y2 := Y2.cell 1
              have y3 := Y2.free 0
              have y4 := Y2.free 1
              have y5 := Y2.lt
              simp only [List.getElem?_toArray, List.getElem?_cons_zero, List.getElem?_cons_succ] at y1 y2
              have Z1 := Lib.hid ((Y1.far (p := ⟨h2, 0, none⟩) (by simpa using hne) (.int .i64 hi'1)).far (p := ⟨h2, 1, none⟩) (by simpa using hne) (.int .i64 hi'2))
              have Z2 := Lib.hid ((Y2.set 0 (.int .i64 hi'1)).set 1 (.int .i64 hi'2))
              have Z3 := Lib.hid ((Y3.setCell (p := ⟨h2, 0, none⟩) hh2 (.int .i64 hi'1)).setCell (p := ⟨h2, 1, none⟩) hh2 (.int .i64 hi'2))
              generalize (w8.setCell ⟨h1, 0, none⟩ (.int .i64 lo'1)).setCell ⟨h1, 1, none⟩ (.int .i64 lo'2) = w9 at *
              refine wpAnyH_ready (rs := [13]) (by kernel_rfl) (by simp) ?_
              refine AllReadyH.cons rfl (fun K hK => ?_) AllReadyH.nil
              go_simp
              refine hK.out _ _ (s1_of c1 c2 F5.1 Z3.out) (fun hHeld => ?_)
              clear hK K
              try simp only [Act.put, List.setIfInBounds_toArray, List.set_cons_zero, List.set_cons_succ]
              refine wpAnyH_done (by kernel_rfl) ?_ _
              go_wp2_with fail
              go_roundw
              case rel => exact ⟨k + 1, (lo'1, lo'2), (hi'1, hi'2), by omega, by go_num, HN, Z1, Z2, Z3⟩
              case measure => simp [intOf] <;> omega
            refine AllReadyH.cons rfl (fun K hK => ?_) AllReadyH.nil
            go_simp
            refine hK.out _ _ hHeld (fun hHeld => ?_)
            clear hK K
            try simp only [Act.put, List.setIfInBounds_toArray, List.set_cons_zero, List.set_cons_succ]
            refine wpAnyH_ready (rs := [5]) (by kernel_rfl) (by simp) ?_
            refine AllReadyH.cons rfl (fun K hK => ?_) AllReadyH.nil
            go_simp
            refine (qn.out _).mono ?_
            rintro e w7 ⟨rfl, k7⟩
            have t7 := Below.trans t0 (k7.mono (Nat.le_of_eq rfl))
            have hb7 := hB.out.trans (t7.mono hB.out.size)
            obtain ⟨⟨A1, A2, A3, A4, A5⟩, ⟨C1, C2, C3, C4, C5⟩, _, _⟩ := HH.out _ t7
            refine hK.out _ _ (s1_of c1 c2 F5.1 hb7) (fun hHeld => ?_)
            clear hK K
            try simp only [Act.put, List.setIfInBounds_toArray, List.set_cons_zero, List.set_cons_succ]
            refine wpAnyH_ready (rs := [11]) (by kernel_rfl) (by simp) ?_
            refine AllReadyH.cons rfl (fun K hK => ?_) AllReadyH.nil
            go_simp
            refine (qx.out _).mono ?_
            rintro e w8 ⟨rfl, k8⟩
            have t8 := Below.trans t7 (k8.mono t7.size)
            have hb8 := hB.out.trans (t8.mono hB.out.size)
            obtain ⟨⟨A1, A2, A3, A4, A5⟩, ⟨C1, C2, C3, C4, C5⟩, _, _⟩ := HH.out _ t8
            refine hK.out _ _ (s1_of c1 c2 F5.1 hb8) (fun hHeld => ?_)
            clear hK K
            try simp only [Act.put, List.setIfInBounds_toArray, List.set_cons_zero, List.set_cons_succ]
            have hA8 := hA.out.below t8 A5'
            have hC8 := hC.out.below t8 C5'
            have Y1 := (hA8.set 0 (.int .i64 lo'1)).set 1 (.int .i64 lo'2)
            have Y2 := (hC8.far (p := ⟨h1, 0, none⟩) (by simpa using Ne.symm hne) (.int .i64 lo'1)).far (p := ⟨h1, 1, none⟩) (by simpa using Ne.symm hne) (.int .i64 lo'2)
            have Y3 := (hb8.setCell (p := ⟨h1, 0, none⟩) hh1 (.int .i64 lo'1)).setCell (p := ⟨h1, 1, none⟩) hh1 (.int .i64 lo'2)
            refine wpAnyH_ready (rs := [12]) (by kernel_rfl) (by simp) ?_
            refine AllReadyH.cons rfl (fun K hK => ?_) AllReadyH.nil
            go_simp
            refine hK.out _ _ (s1_of c1 c2 F5.1 Y3) (fun hHeld => ?_)
            clear hK K
            try simp only [Act.put, List.setIfInBounds_toArray, List.set_cons_zero, List.set_cons_succ]
            have y1 := Y2.cell 0
            have y2 := Y2.cell 1
            have y3 := Y2.free 0
            have y4 := Y2.free 1
            have y5 := Y2.lt
            simp only [List.getElem?_toArray, List.getElem?_cons_zero, List.getElem?_cons_succ] at y1 y2
            have Z1 := Lib.hid ((Y1.far (p := ⟨h2, 0, none⟩) (by simpa using hne) (.int .i64 hi'1)).far (p := ⟨h2, 1, none⟩) (by simpa using hne) (.int .i64 hi'2))
            have Z2 := Lib.hid ((Y2.set 0 (.int .i64 hi'1)).set 1 (.int .i64 hi'2))
            have Z3 := Lib.hid ((Y3.setCell (p := ⟨h2, 0, none⟩) hh2 (.int .i64 hi'1)).setCell (p := ⟨h2, 1, none⟩) hh2 (.int .i64 hi'2))
            generalize (w8.setCell ⟨h1, 0, none⟩ (.int .i64 lo'1)).setCell ⟨h1, 1, none⟩ (.int .i64 lo'2) = w9 at *
            refine wpAnyH_ready (rs := [13]) (by kernel_rfl) (by simp) ?_
            refine AllReadyH.cons rfl (fun K hK => ?_) AllReadyH.nil
            go_simp
            refine hK.out _ _ (s1_of c1 c2 F5.1 Z3.out) (fun hHeld => ?_)
            clear hK K
            try simp only [Act.put, List.setIfInBounds_toArray, List.set_cons_zero, List.set_cons_succ]
            refine wpAnyH_done (by kernel_rfl) ?_ _
            go_wp2_with fail
            go_roundw
            case rel => exact ⟨k + 1, (lo'1, lo'2), (hi'1, hi'2), by omega, by go_num, HN, Z1, Z2, Z3⟩
            case measure => simp [intOf] <;> omega
          refine AllReadyH.cons rfl (fun K hK => ?_) AllReadyH.nil
          go_simp
          refine hK.out _ _ hHeld (fun hHeld => ?_)
          clear hK K
          try simp only [Act.put, List.setIfInBounds_toArray, List.set_cons_zero, List.set_cons_succ]
          refine wpAnyH_ready (rs := [0]) (by kernel_rfl) (by simp) ?_
          refine AllReadyH.cons rfl (fun K hK => ?_) AllReadyH.nil
          go_simp
          refine hK.out _ _ hHeld (fun hHeld => ?_)
          clear hK K
          try simp only [Act.put, List.setIfInBounds_toArray, List.set_cons_zero, List.set_cons_succ]
          refine wpAnyH_ready (rs := [5]) (by kernel_rfl) (by simp) ?_
          refine AllReadyH.cons rfl (fun K hK => ?_) AllReadyH.nil
          go_simp
          refine (qn.out _).mono ?_
          rintro e w7 ⟨rfl, k7⟩
          have t7 := Below.trans t0 (k7.mono (Nat.le_of_eq rfl))
          have hb7 := hB.out.trans (t7.mono hB.out.size)
          obtain ⟨⟨A1, A2, A3, A4, A5⟩, ⟨C1, C2, C3, C4, C5⟩, _, _⟩ := HH.out _ t7
          refine hK.out _ _ (s1_of c1 c2 F5.1 hb7) (fun hHeld => ?_)
          clear hK K
          try simp only [Act.put, List.setIfInBounds_toArray, List.set_cons_zero, List.set_cons_succ]
          refine wpAnyH_ready (rs := [11]) (by kernel_rfl) (by simp) ?_
          refine AllReadyH.cons rfl (fun K hK => ?_) AllReadyH.nil
          go_simp
          refine (qx.out _).mono ?_
          rintro e w8 ⟨rfl, k8⟩
          have t8 := Below.trans t7 (k8.mono t7.size)
          have hb8 := hB.out.trans (t8.mono hB.out.size)
          obtain ⟨⟨A1, A2, A3, A4, A5⟩, ⟨C1, C2, C3, C4, C5⟩, _, _⟩ := HH.out _ t8
          refine hK.out _ _ (s1_of c1 c2 F5.1 hb8) (fun hHeld => ?_)
          clear hK K
          try simp only [Act.put, List.setIfInBounds_toArray, List.set_cons_zero, List.set_cons_succ]
          have hA8 := hA.out.below t8 A5'
          have hC8 := hC.out.below t8 C5'
          have Y1 := (hA8.set 0 (.int .i64 lo'1)).set 1 (.int .i64 lo'2)
          have Y2 := (hC8.far (p := ⟨h1, 0, none⟩) (by simpa using Ne.symm hne) (.int .i64 lo'1)).far (p := ⟨h1, 1, none⟩) (by simpa using Ne.symm hne) (.int .i64 lo'2)
          have Y3 := (hb8.setCell (p := ⟨h1, 0, none⟩) hh1 (.int .i64 lo'1)).setCell (p := ⟨h1, 1, none⟩) hh1 (.int .i64 lo'2)
          refine wpAnyH_ready (rs := [12]) (by kernel_rfl) (by simp) ?_
          refine AllReadyH.cons rfl (fun K hK => ?_) AllReadyH.nil
          go_simp
          refine hK.out _ _ (s1_of c1 c2 F5.1 Y3) (fun hHeld => ?_)
          clear hK K
          try simp only [Act.put, List.setIfInBounds_toArray, List.set_cons_zero, List.set_cons_succ]
          have y1 := Y2.cell 0
          have y2 := Y2.cell 1
          have y3 := Y2.free 0
          have y4 := Y2.free 1
          have y5 := Y2.lt
          simp only [List.getElem?_toArray, List.getElem?_cons_zero, List.getElem?_cons_succ] at y1 y2
          have Z1 := Lib.hid ((Y1.far (p := ⟨h2, 0, none⟩) (by simpa using hne) (.int .i64 hi'1)).far (p := ⟨h2, 1, none⟩) (by simpa using hne) (.int .i64 hi'2))
          have Z2 := Lib.hid ((Y2.set 0 (.int .i64 hi'1)).set 1 (.int .i64 hi'2))
          have Z3 := Lib.hid ((Y3.setCell (p := ⟨h2, 0, none⟩) hh2 (.int .i64 hi'1)).setCell (p := ⟨h2, 1, none⟩) hh2 (.int .i64 hi'2))
          generalize (w8.setCell ⟨h1, 0, none⟩ (.int .i64 lo'1)).setCell ⟨h1, 1, none⟩ (.int .i64 lo'2) = w9 at *
          refine wpAnyH_ready (rs := [13]) (by kernel_rfl) (by simp) ?_
          refine AllReadyH.cons rfl (fun K hK => ?_) AllReadyH.nil
          go_simp
          refine hK.out _ _ (s1_of c1 c2 F5.1 Z3.out) (fun hHeld => ?_)
          clear hK K
          try simp only [Act.put, List.setIfInBounds_toArray, List.set_cons_zero, List.set_cons_succ]
          refine wpAnyH_done (by kernel_rfl) ?_ _
          go_wp2_with fail
          go_roundw
          case rel => exact ⟨k + 1, (lo'1, lo'2), (hi'1, hi'2), by omega, by go_num, HN, Z1, Z2, Z3⟩
          case measure => simp [intOf] <;> omega
        · obtain rfl : k = len := by omega
          have hx := hI.out
          rw [← hl] at hx
          obtain ⟨y1, y2⟩ := hx.all
          have z1 := (HB.out trivial hx.1).1 y1
          have z2 := (HB.out trivial hx.2.1).2 y2
          have il := vld_in hx.1
          have ih := vld_in hx.2.1
          have Q1 := Lib.hid (fun w9 => FracO.compare_any lo.1 lo.2 m1 m2 w9 il.1 il.2.1 hmi.1 hmi.2)
          have Q2 := Lib.hid (fun w9 => FracO.compare_any m1 m2 hi.1 hi.2 w9 hmi.1 hmi.2 ih.1 ih.2.1)
          generalize cmpF lo.1 lo.2 m1 m2 = r1 at Q1 z1
          generalize cmpF m1 m2 hi.1 hi.2 = r2 at Q2 z2
          have d1 : decide (r1 ≤ 0) = true := by simpa using z1
          have d2 : decide (r2 ≤ 0) = true := by simpa using z2
          obtain ⟨A1, A2, _, _, A5⟩ := hA.out.two
          obtain ⟨C1, C2, _, _, C5⟩ := hC.out.two
          have B6 := B5.below hB.out B5.lt
          obtain ⟨M1, M2, _, _, M5⟩ := B6.two
          go_wp2_with fail
          refine (Q1.out _).mono ?_
          rintro e w6 ⟨rfl, k6⟩
          have C6 := hC.out.step0 k6
          have B7 := B6.step0 k6
          have D6 := next0 (D5.trans (hB.out.mono D5.size)) k6
          obtain ⟨C1, C2, _, _, C5⟩ := C6.two
          obtain ⟨M1, M2, _, _, M5⟩ := B7.two
          go_wp2_with fail
          refine (Q2.out _).mono ?_
          rintro e w7 ⟨rfl, k7⟩
          have D7 := next0 D6 k7
          go_wp2_with fail
          refine (FracW.awake_any _ (tab_below ht D7)).mono ?_
          rintro e w8 ⟨rfl, k8⟩
          have D8 := next0 D7 k8
          go_wp2_with fail
          go_ret
          exact ⟨rfl, D8⟩
end FracL6
end Go.Proofs.YtlamemhfnglfeaaDoor
