/- FractionMakes's walk: it returns true, for all integers, where strconv's table of powers of ten is as laid. -/
import Derived.Test.YtandcmlmklpckaaDoorKit
import Derived.Test.YtandcmlmklpckaaDoorFracW
import Derived.Deep.RegionHeld3
namespace Go.Proofs.YtandcmlmklpckaaDoor
open Go Go.RowKit
namespace FracL1
open Kit FracM
open FracB (fr)
open FracT (Tab tab_below)

def Kp (w : World) (N : Nat) (w' : World) : Prop := Below w.heap.size w w' ∧ N ≤ w'.heap.size ∧ Tab w'
abbrev S6 (w : World) (N g5 g7 g9 : Nat) (p q r s t u : Value) (w' : World) : Prop :=
  w'.cell? ⟨g5, 0, none⟩ = some p ∧ w'.cell? ⟨g5, 1, none⟩ = some q ∧ w'.cell? ⟨g7, 0, none⟩ = some r ∧ w'.cell? ⟨g7, 1, none⟩ = some s ∧ w'.cell? ⟨g9, 0, none⟩ = some t ∧ w'.cell? ⟨g9, 1, none⟩ = some u ∧ Hid (Kp w N w')
theorem s6_next {w w1 w2 : World} {N g5 g7 g9 : Nat} {p q r s t u : Value} (hg : g5 < N ∧ g7 < N ∧ g9 < N) (h : S6 w N g5 g7 g9 p q r s t u w1) (hb : Below w1.heap.size w1 w2) : S6 w N g5 g7 g9 p q r s t u w2 := by
  obtain ⟨h0, h1, h2, h3, h4, h5, hk⟩ := h
  have hk' := hk.out
  obtain ⟨k1, k2, k3⟩ := hk'
  have c : ∀ g i, g < N → w2.cell? ⟨g, i, none⟩ = w1.cell? ⟨g, i, none⟩ := fun g i hlt => hb.cell (p := ⟨g, i, none⟩) (show g < w1.heap.size by omega)
  exact ⟨(c _ _ hg.1).trans h0, (c _ _ hg.1).trans h1, (c _ _ hg.2.1).trans h2, (c _ _ hg.2.1).trans h3, (c _ _ hg.2.2).trans h4, (c _ _ hg.2.2).trans h5, ⟨next0 k1 hb, Nat.le_trans k2 hb.size, tab_below k3 hb⟩⟩
theorem lift6 {P : Program} {f : FuncId} {args : Array Value} {v : Value} {w w1 : World} {N g5 g7 g9 : Nat} {p q r s t u : Value} (hg : g5 < N ∧ g7 < N ∧ g9 < N) (h : S6 w N g5 g7 g9 p q r s t u w1)
    (hc : Tab w1 → Calls P f args w1 fun e w' => e = .returned v ∧ Below w1.heap.size w1 w') : Calls P f args w1 fun e w' => e = .returned v ∧ S6 w N g5 g7 g9 p q r s t u w' :=
  (hc (Hid.out h.2.2.2.2.2.2).2.2).mono fun _ _ ⟨he, hb⟩ => ⟨he, s6_next hg h hb⟩

set_option maxRecDepth 100000 in
set_option maxHeartbeats 1600000 in
theorem makes (a b : Int) (w : World) (ha0 : -9223372036854775808 ≤ a) (ha1 : a ≤ 9223372036854775807) (hb0 : -9223372036854775808 ≤ b) (hb1 : b ≤ 9223372036854775807) (ht : Tab w) :
    Calls Tryd.prog 10 #[.int .i64 a, .int .i64 b] w fun e w' => e = .returned (.bool true) ∧ Below w.heap.size w w' := by
  have hv := fun (h : (mk a b).2.2 = 0) => (mk_vld h).1
  have hin : (-9223372036854775808 ≤ (mk a b).1 ∧ (mk a b).1 ≤ 9223372036854775807) ∧ -9223372036854775808 ≤ (mk a b).2.1 ∧ (mk a b).2.1 ≤ 9223372036854775807 := by have := mk_in a b; omega
  have hm1 := fun w2 => FracB.make_any a b w2 ha0 ha1 hb0 hb1
  have hm2 := fun w2 => FracC.make_any a b w2 ha0 ha1 hb0 hb1
  have herr := mk_err a b
  generalize mk a b = m at hv hin hm1 hm2 herr
  obtain ⟨x, y, z⟩ := m
  have H1 := Lib.hid hm1
  have H2 := Lib.hid hm2
  clear hm1 hm2
  obtain ⟨V, hV⟩ : ∃ V, vld a b = V := ⟨_, rfl⟩
  have HV := Lib.hid hV; clear hV
  have e1 := fun w2 => HV.out ▸ FracD.valid_any a b w2 ha0 ha1 hb0 hb1
  have e2 := fun w2 => HV.out ▸ FracE.valid_any a b w2 ha0 ha1 hb0 hb1
  have E1 := Lib.hid e1
  have E2 := Lib.hid e2
  clear e1 e2
  rcases herr with hz | hz
  · have hz : z = 0 := hz
    subst hz
    have hx := hv rfl
    have e3 := fun w2 => hx ▸ FracD.valid_any x y w2 hin.1.1 hin.1.2 hin.2.1 hin.2.2
    have E3 := Lib.hid e3
    clear e3 hv
    go_enter Tryd.func10, Tryd.ntmps10
    go_wp2_with fail
    refine (H1.out _).mono ?_
    rintro e w1 ⟨rfl, k1⟩
    go_wp2_with fail
    refine (H2.out _).mono ?_
    rintro e w2 ⟨rfl, k2⟩
    have A1 := (Has.new w1 46 #[.int .i64 x, .int .i64 y]).below k2 (by simp)
    have B2 := next1 k1 k2
    have z2 := lt1 k2
    go_wp2_with fail
    have hg : w1.heap.size < w2.heap.size + 2 ∧ w2.heap.size < w2.heap.size + 2 ∧ w2.heap.size + 1 < w2.heap.size + 2 := ⟨by omega, by omega, by omega⟩
    have hS0 : S6 w (w2.heap.size + 2) w1.heap.size w2.heap.size (w2.heap.size + 1) (.int .i64 x) (.int .i64 y) (.int .i64 x) (.int .i64 y) (.int .i64 a) (.int .i64 b) (((w2.alloc (.cells #[.int .i64 x, .int .i64 y] 46)).alloc (.cells #[.int .i64 a, .int .i64 b] 46)).drew) :=
      have D1 := ((A1.alloc (.cells #[.int .i64 x, .int .i64 y] 46)).alloc (.cells #[.int .i64 a, .int .i64 b] 46)).drew
      have D2 := ((Has.new w2 46 #[.int .i64 x, .int .i64 y]).alloc (.cells #[.int .i64 a, .int .i64 b] 46)).drew
      have D3 := (Has.new1 w2 (.cells #[.int .i64 x, .int .i64 y] 46) 46 #[.int .i64 a, .int .i64 b]).drew
      have D4 := next0 (next0 B2 (below_alloc w2 (.cells #[.int .i64 x, .int .i64 y] 46))) (below_alloc _ (.cells #[.int .i64 a, .int .i64 b] 46)).drew
      ⟨D1.cell 0, D1.cell 1, D2.cell 0, D2.cell 1, D3.cell 0, D3.cell 1, ⟨D4, by simp, tab_below ht D4⟩⟩
    have HL := Lib.hid (fun f args v w1' => @lift6 Tryd.prog f args v w w1' _ _ _ _ (.int .i64 x) (.int .i64 y) (.int .i64 x) (.int .i64 y) (.int .i64 a) (.int .i64 b) hg)
    go_region_held3 (fun w' => w'.cell? ⟨w1.heap.size, 0, none⟩ = some (.int .i64 x) ∧ w'.cell? ⟨w1.heap.size, 1, none⟩ = some (.int .i64 y) ∧ w'.cell? ⟨w2.heap.size, 0, none⟩ = some (.int .i64 x) ∧ w'.cell? ⟨w2.heap.size, 1, none⟩ = some (.int .i64 y) ∧ w'.cell? ⟨w2.heap.size + 1, 0, none⟩ = some (.int .i64 a) ∧ w'.cell? ⟨w2.heap.size + 1, 1, none⟩ = some (.int .i64 b) ∧ Hid (Kp w (w2.heap.size + 2) w'))
      (first | exact hS0 | exact ⟨‹_›, ‹_›, ‹_›, ‹_›, ‹_›, ‹_›, ‹_›⟩)
      (first
        | (go_at_call 51; go_split_ands; (first | (with_reducible refine (HL.out _ _ _ _ ⟨‹_›, ‹_›, ‹_›, ‹_›, ‹_›, ‹_›, ‹_›⟩ (fun _ => E1.out _)).mono ?_) | (with_reducible refine (HL.out _ _ _ _ ⟨‹_›, ‹_›, ‹_›, ‹_›, ‹_›, ‹_›, ‹_›⟩ (fun _ => E3.out _)).mono ?_)); rintro e w' ⟨rfl, q1, q2, q3, q4, q5, q6, q7⟩)
        | (go_at_call 52; go_split_ands; with_reducible refine (HL.out _ _ _ _ ⟨‹_›, ‹_›, ‹_›, ‹_›, ‹_›, ‹_›, ‹_›⟩ (fun _ => E2.out _)).mono ?_; rintro e w' ⟨rfl, q1, q2, q3, q4, q5, q6, q7⟩)
        | (go_at_call 53; go_split_ands; with_reducible refine (HL.out _ _ _ _ ⟨‹_›, ‹_›, ‹_›, ‹_›, ‹_›, ‹_›, ‹_›⟩ (fun ht => FracW.awake_any _ ht)).mono ?_; rintro e w' ⟨rfl, q1, q2, q3, q4, q5, q6, q7⟩))
    all_goals go_wp2
    all_goals go_ret
    all_goals exact ⟨rfl, q7.out.1⟩
  · have hz : z = 12 ∨ z = 13 := hz
    clear hv
    rcases hz with hz | hz
    all_goals
      subst hz
      go_enter Tryd.func10, Tryd.ntmps10
      go_wp2_with fail
      refine (H1.out _).mono ?_
      rintro e w1 ⟨rfl, k1⟩
      go_wp2_with fail
      refine (H2.out _).mono ?_
      rintro e w2 ⟨rfl, k2⟩
      have A1 := (Has.new w1 46 #[.int .i64 x, .int .i64 y]).below k2 (by simp)
      have B2 := next1 k1 k2
      have z2 := lt1 k2
      go_wp2_with fail
      have hg : w1.heap.size < w2.heap.size + 2 ∧ w2.heap.size < w2.heap.size + 2 ∧ w2.heap.size + 1 < w2.heap.size + 2 := ⟨by omega, by omega, by omega⟩
      have hS0 : S6 w (w2.heap.size + 2) w1.heap.size w2.heap.size (w2.heap.size + 1) (.int .i64 x) (.int .i64 y) (.int .i64 x) (.int .i64 y) (.int .i64 a) (.int .i64 b) (((w2.alloc (.cells #[.int .i64 x, .int .i64 y] 46)).alloc (.cells #[.int .i64 a, .int .i64 b] 46)).drew) :=
        have D1 := ((A1.alloc (.cells #[.int .i64 x, .int .i64 y] 46)).alloc (.cells #[.int .i64 a, .int .i64 b] 46)).drew
        have D2 := ((Has.new w2 46 #[.int .i64 x, .int .i64 y]).alloc (.cells #[.int .i64 a, .int .i64 b] 46)).drew
        have D3 := (Has.new1 w2 (.cells #[.int .i64 x, .int .i64 y] 46) 46 #[.int .i64 a, .int .i64 b]).drew
        have D4 := next0 (next0 B2 (below_alloc w2 (.cells #[.int .i64 x, .int .i64 y] 46))) (below_alloc _ (.cells #[.int .i64 a, .int .i64 b] 46)).drew
        ⟨D1.cell 0, D1.cell 1, D2.cell 0, D2.cell 1, D3.cell 0, D3.cell 1, ⟨D4, by simp, tab_below ht D4⟩⟩
      have HL := Lib.hid (fun f args v w1' => @lift6 Tryd.prog f args v w w1' _ _ _ _ (.int .i64 x) (.int .i64 y) (.int .i64 x) (.int .i64 y) (.int .i64 a) (.int .i64 b) hg)
      refine wp_region_held_drew (S := (fun w' => w'.cell? ⟨w1.heap.size, 0, none⟩ = some (.int .i64 x) ∧ w'.cell? ⟨w1.heap.size, 1, none⟩ = some (.int .i64 y) ∧ w'.cell? ⟨w2.heap.size, 0, none⟩ = some (.int .i64 x) ∧ w'.cell? ⟨w2.heap.size, 1, none⟩ = some (.int .i64 y) ∧ w'.cell? ⟨w2.heap.size + 1, 0, none⟩ = some (.int .i64 a) ∧ w'.cell? ⟨w2.heap.size + 1, 1, none⟩ = some (.int .i64 b) ∧ Hid (Kp w (w2.heap.size + 2) w'))) (by kernel_rfl) hS0 (fun hHeld => ?_)
      refine wpAnyH_take (i := 0) (v := ?_) rfl (by kernel_rfl) (by kernel_rfl) (by kernel_rfl) (fun _ _ _ h => h) (Or.inl ⟨by rfl, ?_⟩) (by assumption) ?_
      rotate_left
      · intro w' hSw; (try dsimp only at hSw); simp only [List.getElem_toArray, List.getElem_cons_zero]; go_simp; try with_reducible rfl
      simp only [List.getElem_toArray, List.getElem_cons_zero, Act.put, List.setIfInBounds_toArray, List.set_cons_zero, List.set_cons_succ]
      refine wpAnyH_take (i := 1) (v := ?_) rfl (by kernel_rfl) (by kernel_rfl) (by kernel_rfl) (fun _ _ _ h => h) (Or.inl ⟨by rfl, ?_⟩) (by assumption) ?_
      rotate_left
      · intro w' hSw; (try dsimp only at hSw); simp only [List.getElem_toArray, List.getElem_cons_zero, List.getElem_cons_succ]; go_simp; try with_reducible rfl
      simp only [List.getElem_toArray, List.getElem_cons_zero, List.getElem_cons_succ, Act.put, List.setIfInBounds_toArray, List.set_cons_zero, List.set_cons_succ]
      refine wpAnyH_take (i := 2) (v := ?_) rfl (by kernel_rfl) (by kernel_rfl) (by kernel_rfl) (fun _ _ _ h => h) (Or.inl ⟨by rfl, ?_⟩) (by assumption) ?_
      rotate_left
      · intro w' hSw; (try dsimp only at hSw); simp only [List.getElem_toArray, List.getElem_cons_zero, List.getElem_cons_succ]; go_simp; try with_reducible rfl
      simp only [List.getElem_toArray, List.getElem_cons_zero, List.getElem_cons_succ, Act.put, List.setIfInBounds_toArray, List.set_cons_zero, List.set_cons_succ]
      refine wpAnyH_take (i := 3) (v := ?_) rfl (by kernel_rfl) (by kernel_rfl) (by kernel_rfl) (fun _ _ _ h => h) (Or.inl ⟨by rfl, ?_⟩) (by assumption) ?_
      rotate_left
      · intro w' hSw; (try dsimp only at hSw); simp only [List.getElem_toArray, List.getElem_cons_zero, List.getElem_cons_succ]; go_simp; try with_reducible rfl
      simp only [List.getElem_toArray, List.getElem_cons_zero, List.getElem_cons_succ, Act.put, List.setIfInBounds_toArray, List.set_cons_zero, List.set_cons_succ]
      refine wpAnyH_take (i := 4) (v := ?_) rfl (by kernel_rfl) (by kernel_rfl) (by kernel_rfl) (fun _ _ _ h => h) (Or.inl ⟨by rfl, ?_⟩) (by assumption) ?_
      rotate_left
      · intro w' hSw; (try dsimp only at hSw); simp only [List.getElem_toArray, List.getElem_cons_zero, List.getElem_cons_succ]; go_simp; try with_reducible rfl
      simp only [List.getElem_toArray, List.getElem_cons_zero, List.getElem_cons_succ, Act.put, List.setIfInBounds_toArray, List.set_cons_zero, List.set_cons_succ]
      refine wpAnyH_take (i := 5) (v := ?_) rfl (by kernel_rfl) (by kernel_rfl) (by kernel_rfl) (fun _ _ _ h => h) (Or.inl ⟨by rfl, ?_⟩) (by assumption) ?_
      rotate_left
      · intro w' hSw; (try dsimp only at hSw); simp only [List.getElem_toArray, List.getElem_cons_zero, List.getElem_cons_succ]; go_simp; try with_reducible rfl
      simp only [List.getElem_toArray, List.getElem_cons_zero, List.getElem_cons_succ, Act.put, List.setIfInBounds_toArray, List.set_cons_zero, List.set_cons_succ]
      refine wpAnyH_take (i := 6) (v := ?_) rfl (by kernel_rfl) (by kernel_rfl) (by kernel_rfl) (fun _ _ _ h => h) (Or.inl ⟨by rfl, ?_⟩) (by assumption) ?_
      rotate_left
      · intro w' hSw; (try dsimp only at hSw); simp only [List.getElem_toArray, List.getElem_cons_zero, List.getElem_cons_succ]; go_simp; try with_reducible rfl
      simp only [List.getElem_toArray, List.getElem_cons_zero, List.getElem_cons_succ, Act.put, List.setIfInBounds_toArray, List.set_cons_zero, List.set_cons_succ]
      refine wpAnyH_take (i := 7) (v := ?_) rfl (by kernel_rfl) (by kernel_rfl) (by kernel_rfl) (fun _ _ _ h => h) (Or.inl ⟨by rfl, ?_⟩) (by assumption) ?_
      rotate_left
      · intro w' hSw; (try dsimp only at hSw); simp only [List.getElem_toArray, List.getElem_cons_zero, List.getElem_cons_succ]; go_simp; try with_reducible rfl
      simp only [List.getElem_toArray, List.getElem_cons_zero, List.getElem_cons_succ, Act.put, List.setIfInBounds_toArray, List.set_cons_zero, List.set_cons_succ]
      refine wpAnyH_take (i := 8) (v := ?_) rfl (by kernel_rfl) (by kernel_rfl) (by kernel_rfl) (fun _ _ _ h => h) (Or.inl ⟨by rfl, ?_⟩) (by assumption) ?_
      rotate_left
      · intro w' hSw; (try dsimp only at hSw); simp only [List.getElem_toArray, List.getElem_cons_zero, List.getElem_cons_succ]; go_simp; try with_reducible rfl
      simp only [List.getElem_toArray, List.getElem_cons_zero, List.getElem_cons_succ, Act.put, List.setIfInBounds_toArray, List.set_cons_zero, List.set_cons_succ]
      refine wpAnyH_take (i := 9) (v := ?_) rfl (by kernel_rfl) (by kernel_rfl) (by kernel_rfl) (fun _ _ _ h => h) (Or.inl ⟨by rfl, ?_⟩) (by assumption) ?_
      rotate_left
      · intro w' hSw; (try dsimp only at hSw); simp only [List.getElem_toArray, List.getElem_cons_zero, List.getElem_cons_succ]; go_simp; try with_reducible rfl
      simp only [List.getElem_toArray, List.getElem_cons_zero, List.getElem_cons_succ, Act.put, List.setIfInBounds_toArray, List.set_cons_zero, List.set_cons_succ]
      refine wpAnyH_take (i := 11) (v := ?_) rfl (by kernel_rfl) (by kernel_rfl) (by kernel_rfl) (fun _ _ _ h => h) (Or.inl ⟨by rfl, ?_⟩) (by assumption) ?_
      rotate_left
      · intro w' hSw; (try dsimp only at hSw); simp only [List.getElem_toArray, List.getElem_cons_zero, List.getElem_cons_succ]; go_simp; try with_reducible rfl
      simp only [List.getElem_toArray, List.getElem_cons_zero, List.getElem_cons_succ, Act.put, List.setIfInBounds_toArray, List.set_cons_zero, List.set_cons_succ]
      refine wpAnyH_ready (rs := [10]) (by kernel_rfl) (by simp) ?_
      refine AllReadyH.cons rfl (fun K hK => ?_) AllReadyH.nil
      go_simp
      go_split_ands
      with_reducible refine (HL.out _ _ _ _ ⟨‹_›, ‹_›, ‹_›, ‹_›, ‹_›, ‹_›, ‹_›⟩ (fun ht => E1.out _)).mono ?_
      rintro e w' ⟨rfl, q1, q2, q3, q4, q5, q6, q7⟩
      refine hK.out _ _ ⟨q1, q2, q3, q4, q5, q6, q7⟩ (fun hHeld => ?_)
      clear hK K
      try simp only [Act.put, List.setIfInBounds_toArray, List.set_cons_zero, List.set_cons_succ]
      refine wpAnyH_ready (rs := [12]) (by kernel_rfl) (by simp) ?_
      refine AllReadyH.cons rfl (fun K hK => ?_) AllReadyH.nil
      go_simp
      go_split_ands
      with_reducible refine (HL.out _ _ _ _ ⟨‹_›, ‹_›, ‹_›, ‹_›, ‹_›, ‹_›, ‹_›⟩ (fun ht => E2.out _)).mono ?_
      rintro e w' ⟨rfl, q1, q2, q3, q4, q5, q6, q7⟩
      refine hK.out _ _ ⟨q1, q2, q3, q4, q5, q6, q7⟩ (fun hHeld => ?_)
      clear hK K
      try simp only [Act.put, List.setIfInBounds_toArray, List.set_cons_zero, List.set_cons_succ]
      refine wpAnyH_take (i := 13) (v := ?_) rfl (by kernel_rfl) (by kernel_rfl) (by kernel_rfl) (fun _ _ _ h => h) (Or.inl ⟨by rfl, ?_⟩) (by assumption) ?_
      rotate_left
      · intro w' hSw; (try dsimp only at hSw); simp only [List.getElem_toArray, List.getElem_cons_zero, List.getElem_cons_succ]; go_simp; try with_reducible rfl
      simp only [List.getElem_toArray, List.getElem_cons_zero, List.getElem_cons_succ, Act.put, List.setIfInBounds_toArray, List.set_cons_zero, List.set_cons_succ]
      refine wpAnyH_take (i := 14) (v := ?_) rfl (by kernel_rfl) (by kernel_rfl) (by kernel_rfl) (fun _ _ _ h => h) (Or.inl ⟨by rfl, ?_⟩) (by assumption) ?_
      rotate_left
      · intro w' hSw; (try dsimp only at hSw); simp only [List.getElem_toArray, List.getElem_cons_zero, List.getElem_cons_succ]; go_simp; try with_reducible rfl
      simp only [List.getElem_toArray, List.getElem_cons_zero, List.getElem_cons_succ, Act.put, List.setIfInBounds_toArray, List.set_cons_zero, List.set_cons_succ]
      refine wpAnyH_take (i := 15) (v := ?_) rfl (by kernel_rfl) (by kernel_rfl) (by kernel_rfl) (fun _ _ _ h => h) (Or.inl ⟨by rfl, ?_⟩) (by assumption) ?_
      rotate_left
      · intro w' hSw; (try dsimp only at hSw); simp only [List.getElem_toArray, List.getElem_cons_zero, List.getElem_cons_succ]; go_simp; try with_reducible rfl
      simp only [List.getElem_toArray, List.getElem_cons_zero, List.getElem_cons_succ, Act.put, List.setIfInBounds_toArray, List.set_cons_zero, List.set_cons_succ]
      refine wpAnyH_take (i := 16) (v := ?_) rfl (by kernel_rfl) (by kernel_rfl) (by kernel_rfl) (fun _ _ _ h => h) (Or.inl ⟨by rfl, ?_⟩) (by assumption) ?_
      rotate_left
      · intro w' hSw; (try dsimp only at hSw); simp only [List.getElem_toArray, List.getElem_cons_zero, List.getElem_cons_succ]; go_simp; try with_reducible rfl
      simp only [List.getElem_toArray, List.getElem_cons_zero, List.getElem_cons_succ, Act.put, List.setIfInBounds_toArray, List.set_cons_zero, List.set_cons_succ]
      refine wpAnyH_take (i := 17) (v := ?_) rfl (by kernel_rfl) (by kernel_rfl) (by kernel_rfl) (fun _ _ _ h => h) (Or.inl ⟨by rfl, ?_⟩) (by assumption) ?_
      rotate_left
      · intro w' hSw; (try dsimp only at hSw); simp only [List.getElem_toArray, List.getElem_cons_zero, List.getElem_cons_succ]; go_simp; try with_reducible rfl
      simp only [List.getElem_toArray, List.getElem_cons_zero, List.getElem_cons_succ, Act.put, List.setIfInBounds_toArray, List.set_cons_zero, List.set_cons_succ]
      refine wpAnyH_take (i := 18) (v := ?_) rfl (by kernel_rfl) (by kernel_rfl) (by kernel_rfl) (fun _ _ _ h => h) (Or.inl ⟨by rfl, ?_⟩) (by assumption) ?_
      rotate_left
      · intro w' hSw; (try dsimp only at hSw); simp only [List.getElem_toArray, List.getElem_cons_zero, List.getElem_cons_succ]; go_simp; try with_reducible rfl
      simp only [List.getElem_toArray, List.getElem_cons_zero, List.getElem_cons_succ, Act.put, List.setIfInBounds_toArray, List.set_cons_zero, List.set_cons_succ]
      refine wpAnyH_take (i := 19) (v := undef) rfl (by kernel_rfl) (by kernel_rfl) (by kernel_rfl) (fun _ _ _ h => h) (Or.inr ⟨by rfl, rfl⟩) (by assumption) ?_
      simp only [List.getElem_toArray, List.getElem_cons_zero, List.getElem_cons_succ, Act.put, List.setIfInBounds_toArray, List.set_cons_zero, List.set_cons_succ]
      refine wpAnyH_take (i := 20) (v := undef) rfl (by kernel_rfl) (by kernel_rfl) (by kernel_rfl) (fun _ _ _ h => h) (Or.inr ⟨by rfl, rfl⟩) (by assumption) ?_
      simp only [List.getElem_toArray, List.getElem_cons_zero, List.getElem_cons_succ, Act.put, List.setIfInBounds_toArray, List.set_cons_zero, List.set_cons_succ]
      refine wpAnyH_take (i := 21) (v := ?_) rfl (by kernel_rfl) (by kernel_rfl) (by kernel_rfl) (fun _ _ _ h => h) (Or.inl ⟨by rfl, ?_⟩) (by assumption) ?_
      rotate_left
      · intro w' hSw; (try dsimp only at hSw); simp only [List.getElem_toArray, List.getElem_cons_zero, List.getElem_cons_succ]; go_simp; try with_reducible rfl
      simp only [List.getElem_toArray, List.getElem_cons_zero, List.getElem_cons_succ, Act.put, List.setIfInBounds_toArray, List.set_cons_zero, List.set_cons_succ]
      refine wpAnyH_take (i := 22) (v := ?_) rfl (by kernel_rfl) (by kernel_rfl) (by kernel_rfl) (fun _ _ _ h => h) (Or.inl ⟨by rfl, ?_⟩) (by assumption) ?_
      rotate_left
      · intro w' hSw; (try dsimp only at hSw); simp only [List.getElem_toArray, List.getElem_cons_zero, List.getElem_cons_succ]; go_simp; try with_reducible rfl
      simp only [List.getElem_toArray, List.getElem_cons_zero, List.getElem_cons_succ, Act.put, List.setIfInBounds_toArray, List.set_cons_zero, List.set_cons_succ]
      refine wpAnyH_take (i := 23) (v := ?_) rfl (by kernel_rfl) (by kernel_rfl) (by kernel_rfl) (fun _ _ _ h => h) (Or.inl ⟨by rfl, ?_⟩) (by assumption) ?_
      rotate_left
      · intro w' hSw; (try dsimp only at hSw); simp only [List.getElem_toArray, List.getElem_cons_zero, List.getElem_cons_succ]; go_simp; try with_reducible rfl
      simp only [List.getElem_toArray, List.getElem_cons_zero, List.getElem_cons_succ, Act.put, List.setIfInBounds_toArray, List.set_cons_zero, List.set_cons_succ]
      refine wpAnyH_ready (rs := [24]) (by kernel_rfl) (by simp) ?_
      refine AllReadyH.cons rfl (fun K hK => ?_) AllReadyH.nil
      go_simp
      go_split_ands
      with_reducible refine (HL.out _ _ _ _ ⟨‹_›, ‹_›, ‹_›, ‹_›, ‹_›, ‹_›, ‹_›⟩ (fun ht => FracW.awake_any _ ht)).mono ?_
      rintro e w' ⟨rfl, q1, q2, q3, q4, q5, q6, q7⟩
      refine hK.out _ _ ⟨q1, q2, q3, q4, q5, q6, q7⟩ (fun hHeld => ?_)
      clear hK K
      try simp only [Act.put, List.setIfInBounds_toArray, List.set_cons_zero, List.set_cons_succ]
      refine wpAnyH_take (i := 25) (v := ?_) rfl (by kernel_rfl) (by kernel_rfl) (by kernel_rfl) (fun _ _ _ h => h) (Or.inl ⟨by rfl, ?_⟩) (by assumption) ?_
      rotate_left
      · intro w' hSw; (try dsimp only at hSw); simp only [List.getElem_toArray, List.getElem_cons_zero, List.getElem_cons_succ]; go_simp; try with_reducible rfl
      simp only [List.getElem_toArray, List.getElem_cons_zero, List.getElem_cons_succ, Act.put, List.setIfInBounds_toArray, List.set_cons_zero, List.set_cons_succ]
      refine wpAnyH_take (i := 26) (v := ?_) rfl (by kernel_rfl) (by kernel_rfl) (by kernel_rfl) (fun _ _ _ h => h) (Or.inl ⟨by rfl, ?_⟩) (by assumption) ?_
      rotate_left
      · intro w' hSw; (try dsimp only at hSw); simp only [List.getElem_toArray, List.getElem_cons_zero, List.getElem_cons_succ]; go_simp; try with_reducible rfl
      simp only [List.getElem_toArray, List.getElem_cons_zero, List.getElem_cons_succ, Act.put, List.setIfInBounds_toArray, List.set_cons_zero, List.set_cons_succ]
      refine wpAnyH_done (by kernel_rfl) ?_ _
      go_wp2
      go_ret
      exact ⟨rfl, q7.out.1⟩
end FracL1
end Go.Proofs.YtandcmlmklpckaaDoor
