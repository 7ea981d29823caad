/- Parse of the package. Conditions: strconv's table of powers of ten is as laid, the two sentinels of strconv hold nil or an error, internal/bytealg.MaxLen holds a number. -/
import Derived.Test.YtlamemhfnglfeaaDoorFracB2
import Derived.Test.YtlamemhfnglfeaaDoorFracD
import Derived.Test.YtlamemhfnglfeaaDoorShelf2
namespace Go.Proofs.YtlamemhfnglfeaaDoor
open Go Go.RowKit
namespace FracB3
open Kit FracT FracM FracB1 FracB2
open Go.Lib (atoiAll itoa)
def Err (w : World) (g : Nat) : Prop := g < w.heap.size ∧ ∃ ev, w.cell? ⟨g, 0, none⟩ = some ev ∧ (ev = .nilIface ∨ ∃ te pe, ev = .iface te pe)
structure Cnd (w : World) : Prop where
  tab : Tab w
  big : 0 < w.heap.size ∧ ∃ m : Int, w.cell? ⟨0, 0, none⟩ = some (.int .i64 m)
  syn : Err w 1
  ran : Err w 2
theorem Err.below {w w' : World} {g : Nat} (h : Err w g) (hb : Below w.heap.size w w') : Err w' g := by
  obtain ⟨h1, ev, h2, h3⟩ := h
  exact ⟨Nat.lt_of_lt_of_le h1 hb.size, ev, (hb.cell (p := ⟨g, 0, none⟩) h1).trans h2, h3⟩
theorem Cnd.below {w w' : World} (h : Cnd w) (hb : Below w.heap.size w w') : Cnd w' := by
  obtain ⟨h1, m, h2⟩ := h.big
  exact ⟨tab_below h.tab hb, ⟨Nat.lt_of_lt_of_le h1 hb.size, m, (hb.cell (p := ⟨0, 0, none⟩) h1).trans h2⟩, h.syn.below hb, h.ran.below hb⟩
def Bad (w : World) (e : Ending) (w' : World) : Prop := (∃ (v : Int) (t : TypeId) (p : Value), e = .returned (.tuple #[.int .i64 v, .iface t p])) ∧ Below w.heap.size w w'
def Fine (v : Int) (w : World) (e : Ending) (w' : World) : Prop := e = .returned (.tuple #[.int .i64 v, .nilIface]) ∧ Below w.heap.size w w'
theorem atoi_ok (s : ByteArray) (hs : s.size ≤ 1000) (v : Int) (h : atoiAll s.data.toList = .ok v) (w : World) : Calls Tryd.prog 49 #[.string s] w (Fine v w) :=
  (Tryd.strconv_Atoi_ok s (by omega) v h w).mono fun e w' ⟨he, hw⟩ => ⟨he, by
    rcases hw with rfl | ⟨t, rfl⟩
    · exact Below.refl _ _
    · exact Lib.bytesWorld_below _ _ _⟩
theorem atoi_bad (s : ByteArray) (hs : s.size ≤ 1000) (h : ∀ v, atoiAll s.data.toList ≠ .ok v) (w : World) (hc : Cnd w) : Calls Tryd.prog 49 #[.string s] w (Bad w) := by
  by_cases hx : atoiAll s.data.toList = .range
  · obtain ⟨_, ev, h1, h2⟩ := hc.ran
    exact (Tryd.strconv_Atoi_range s (by omega) hx ev w h1 h2).mono fun e w' ⟨N, he, _, _, hb⟩ => ⟨⟨_, _, _, he⟩, hb⟩
  · obtain ⟨_, ev, h1, h2⟩ := hc.syn
    exact (Tryd.strconv_Atoi_bad s (by omega) h hx ev w h1 h2).mono fun e w' ⟨N, he, _, _, hb⟩ => ⟨⟨_, _, _, he⟩, hb⟩
def Either (w : World) (e : Ending) (w' : World) : Prop := (∃ (v : Int) (x : Value), e = .returned (.tuple #[.int .i64 v, x]) ∧ (x = .nilIface ∨ ∃ (t : TypeId) (p : Value), x = .iface t p)) ∧ Below w.heap.size w w'
theorem atoi_any (s : ByteArray) (hs : s.size ≤ 1000) (w : World) (hc : Cnd w) : Calls Tryd.prog 49 #[.string s] w (Either w) := by
  by_cases h : ∃ v, atoiAll s.data.toList = .ok v
  · obtain ⟨v, h⟩ := h
    exact (atoi_ok s hs v h w).mono fun e w' ⟨he, hb⟩ => ⟨⟨v, _, he, Or.inl rfl⟩, hb⟩
  · exact (atoi_bad s hs (fun v hv => h ⟨v, hv⟩) w hc).mono fun e w' ⟨⟨v, t, p, he⟩, hb⟩ => ⟨⟨v, _, he, Or.inr ⟨t, p, rfl⟩⟩, hb⟩
theorem cut_any (s : ByteArray) (hs : s.size ≤ 1000) (w : World) (hc : Cnd w) :
    Calls Tryd.prog 48 #[.string s, .string ⟨#[47]⟩] w fun e w' => e = .returned (.tuple #[.string ⟨(Lib.cut s.data.toList [47]).1.toArray⟩, .string ⟨(Lib.cut s.data.toList [47]).2.1.toArray⟩, .bool (Lib.cut s.data.toList [47]).2.2]) ∧ Below w.heap.size w w' := by
  obtain ⟨_, m, hm⟩ := hc.big
  exact (Tryd.strings_Cut s ⟨#[47]⟩ m w (by omega) hm).mono fun e w' ⟨he, n, hw⟩ => ⟨he, by rw [hw]; exact below_drewN (Below.refl _ _) n⟩
def PR (n d e : Int) : Ending := .returned (.tuple #[.agg #[.int .i64 n, .int .i64 d], .int .i64 e])
set_option maxHeartbeats 3200000 in
/-- A numerator that Atoi refuses. -/
theorem parse_bad1 (s A B D : ByteArray) (c : Bool) (hD : D = if c = true then B else ⟨#[49]⟩) (w : World) (hc : Cnd w)
    (C1 : ∀ w, Cnd w → Calls Tryd.prog 48 #[.string s, .string ⟨#[47]⟩] w fun e w' => e = .returned (.tuple #[.string A, .string B, .bool c]) ∧ Below w.heap.size w w')
    (C2 : ∀ w, Cnd w → Calls Tryd.prog 49 #[.string A] w (Bad w))
    (C3 : ∀ w, Cnd w → Calls Tryd.prog 49 #[.string D] w (Either w)) :
    Calls Tryd.prog 36 #[.string s] w fun e w' => e = PR 0 0 1 ∧ Below w.heap.size w w' := by
  unfold Bad at C2
  unfold Either at C3
  have K1 := Lib.hid C1
  have K2 := Lib.hid C2
  have K3 := Lib.hid C3
  have HC := Lib.hid hc
  clear C1 C2 C3 hc
  have H0 := Lib.hid (Has.new w 23 #[.int .i64 0, .int .i64 0])
  have B0 := Lib.hid (below_alloc w (.cells #[.int .i64 0, .int .i64 0] 23))
  have HC0 := Lib.hid (HC.out.below B0.out)
  cases c
  all_goals
    simp only [if_true, if_false, Bool.false_eq_true] at hD
    subst hD
    go_enter Tryd.func36, Tryd.ntmps36
    go_wp2_with fail
    refine (K1.out _ HC0.out).mono ?_
    rintro e w1 ⟨rfl, k1⟩
    have H1 := Lib.hid (H0.out.step0 k1)
    have B1 := Lib.hid (B0.out.trans (k1.mono B0.out.size))
    have HC1 := Lib.hid (HC0.out.below k1)
    clear k1
    go_wp2_with fail
    refine (K2.out _ HC1.out).mono ?_
    rintro e w2 ⟨⟨v, t, p, rfl⟩, k2⟩
    have H2 := Lib.hid (H1.out.step0 k2)
    have B2 := Lib.hid (B1.out.trans (k2.mono B1.out.size))
    have HC2 := Lib.hid (HC1.out.below k2)
    clear k2
    go_wp2_with fail
    refine (K3.out _ HC2.out).mono ?_
    rintro e w3 ⟨⟨v2, x, rfl, -⟩, k3⟩
    have H3 := Lib.hid (H2.out.step0 k3)
    have B3 := Lib.hid (B2.out.trans (k3.mono B2.out.size))
    clear k3
    obtain ⟨y1, y2, y3, y4, y5⟩ := H3.out.two
    go_wp2_with fail
    have r0 := H3.out.put0 (.int .i64 0) (.int .i64 0)
    have r1 := H3.out.put1 (.int .i64 0) (.int .i64 0)
    refine bodyPost_ret (v := .tuple #[.agg #[.int .i64 0, .int .i64 0], .int .i64 1]) (by simp [results, Tryd.results36, go_sem, r0, r1]) rfl ?_
    exact ⟨rfl, by repeat (first | exact B3.out | refine Below.setCell ?_ (by simp) _)⟩
set_option maxHeartbeats 3200000 in
/-- A denominator that Atoi refuses. -/
theorem parse_bad2 (n : Int) (s A B D : ByteArray) (c : Bool) (hD : D = if c = true then B else ⟨#[49]⟩) (w : World) (hc : Cnd w)
    (C1 : ∀ w, Cnd w → Calls Tryd.prog 48 #[.string s, .string ⟨#[47]⟩] w fun e w' => e = .returned (.tuple #[.string A, .string B, .bool c]) ∧ Below w.heap.size w w')
    (C2 : ∀ w, Cnd w → Calls Tryd.prog 49 #[.string A] w (Fine n w))
    (C3 : ∀ w, Cnd w → Calls Tryd.prog 49 #[.string D] w (Bad w)) :
    Calls Tryd.prog 36 #[.string s] w fun e w' => e = PR 0 0 1 ∧ Below w.heap.size w w' := by
  unfold Fine at C2
  unfold Bad at C3
  have K1 := Lib.hid C1
  have K2 := Lib.hid C2
  have K3 := Lib.hid C3
  have HC := Lib.hid hc
  clear C1 C2 C3 hc
  have H0 := Lib.hid (Has.new w 23 #[.int .i64 0, .int .i64 0])
  have B0 := Lib.hid (below_alloc w (.cells #[.int .i64 0, .int .i64 0] 23))
  have HC0 := Lib.hid (HC.out.below B0.out)
  cases c
  all_goals
    simp only [if_true, if_false, Bool.false_eq_true] at hD
    subst hD
    go_enter Tryd.func36, Tryd.ntmps36
    go_wp2_with fail
    refine (K1.out _ HC0.out).mono ?_
    rintro e w1 ⟨rfl, k1⟩
    have H1 := Lib.hid (H0.out.step0 k1)
    have B1 := Lib.hid (B0.out.trans (k1.mono B0.out.size))
    have HC1 := Lib.hid (HC0.out.below k1)
    clear k1
    go_wp2_with fail
    refine (K2.out _ HC1.out).mono ?_
    rintro e w2 ⟨rfl, k2⟩
    have H2 := Lib.hid (H1.out.step0 k2)
    have B2 := Lib.hid (B1.out.trans (k2.mono B1.out.size))
    have HC2 := Lib.hid (HC1.out.below k2)
    clear k2
    go_wp2_with fail
    refine (K3.out _ HC2.out).mono ?_
    rintro e w3 ⟨⟨v2, t, p, rfl⟩, k3⟩
    have H3 := Lib.hid (H2.out.step0 k3)
    have B3 := Lib.hid (B2.out.trans (k3.mono B2.out.size))
    clear k3
    obtain ⟨y1, y2, y3, y4, y5⟩ := H3.out.two
    go_wp2_with fail
    have r0 := H3.out.put0 (.int .i64 0) (.int .i64 0)
    have r1 := H3.out.put1 (.int .i64 0) (.int .i64 0)
    refine bodyPost_ret (v := .tuple #[.agg #[.int .i64 0, .int .i64 0], .int .i64 1]) (by simp [results, Tryd.results36, go_sem, r0, r1]) rfl ?_
    exact ⟨rfl, by repeat (first | exact B3.out | refine Below.setCell ?_ (by simp) _)⟩
set_option maxHeartbeats 3200000 in
/-- Two numbers. -/
theorem parse_two (n d : Int) (v : Bool) (T : ByteArray) (s A B D : ByteArray) (c : Bool) (hD : D = if c = true then B else ⟨#[49]⟩) (w : World) (hc : Cnd w)
    (C1 : ∀ w, Cnd w → Calls Tryd.prog 48 #[.string s, .string ⟨#[47]⟩] w fun e w' => e = .returned (.tuple #[.string A, .string B, .bool c]) ∧ Below w.heap.size w w')
    (C2 : ∀ w, Cnd w → Calls Tryd.prog 49 #[.string A] w (Fine n w))
    (C4 : ∀ w, Calls Tryd.prog 12 #[.agg #[.int .i64 n, .int .i64 d]] w fun e w' => e = .returned (.bool v) ∧ Below w.heap.size w w')
    (C5 : ∀ w, Cnd w → Calls Tryd.prog 38 #[.agg #[.int .i64 n, .int .i64 d]] w fun e w' => e = .returned (.string T) ∧ Below w.heap.size w w')
    (C3 : ∀ w, Cnd w → Calls Tryd.prog 49 #[.string D] w (Fine d w)) :
    Calls Tryd.prog 36 #[.string s] w fun e w' => e = (if v = true ∧ T = s then PR n d 0 else PR 0 0 1) ∧ Below w.heap.size w w' := by
  unfold Fine at C2
  unfold Fine at C3
  have K1 := Lib.hid C1
  have K2 := Lib.hid C2
  have K3 := Lib.hid C3
  have HC := Lib.hid hc
  have K4 := Lib.hid C4
  have K5 := Lib.hid C5
  clear C1 C2 C3 C4 C5 hc
  have H0 := Lib.hid (Has.new w 23 #[.int .i64 0, .int .i64 0])
  have B0 := Lib.hid (below_alloc w (.cells #[.int .i64 0, .int .i64 0] 23))
  have HC0 := Lib.hid (HC.out.below B0.out)
  cases v
  case false =>
    rw [if_neg (by simp)]
    cases c
    all_goals
      simp only [if_true, if_false, Bool.false_eq_true] at hD
      subst hD
      go_enter Tryd.func36, Tryd.ntmps36
      go_wp2_with fail
      refine (K1.out _ HC0.out).mono ?_
      rintro e w1 ⟨rfl, k1⟩
      have H1 := Lib.hid (H0.out.step0 k1)
      have B1 := Lib.hid (B0.out.trans (k1.mono B0.out.size))
      have HC1 := Lib.hid (HC0.out.below k1)
      clear k1
      go_wp2_with fail
      refine (K2.out _ HC1.out).mono ?_
      rintro e w2 ⟨rfl, k2⟩
      have H2 := Lib.hid (H1.out.step0 k2)
      have B2 := Lib.hid (B1.out.trans (k2.mono B1.out.size))
      have HC2 := Lib.hid (HC1.out.below k2)
      clear k2
      go_wp2_with fail
      refine (K3.out _ HC2.out).mono ?_
      rintro e w3 ⟨rfl, k3⟩
      have H3 := Lib.hid (H2.out.step0 k3)
      have B3 := Lib.hid (B2.out.trans (k3.mono B2.out.size))
      have HC3 := Lib.hid (HC2.out.below k3)
      clear k3
      have R := Lib.hid (H3.out.alloc (.cells #[.int .i64 n, .int .i64 d] 23))
      have F := Lib.hid (Has.new w3 23 #[.int .i64 n, .int .i64 d])
      have D := Lib.hid (B3.out.alloc B3.out.size (.cells #[.int .i64 n, .int .i64 d] 23))
      obtain ⟨z1, z2, z3, z4, z5⟩ := F.out.two
      go_wp2_with fail
      refine (K4.out _).mono ?_
      rintro e w4 ⟨rfl, k4⟩
      have R4 := Lib.hid (R.out.step0 k4)
      have D4 := Lib.hid (D.out.trans (k4.mono D.out.size))
      clear k4 z1 z2 z3 z4 z5
      obtain ⟨y1, y2, y3, y4, y5⟩ := R4.out.two
      go_wp2_with fail
      have r0 := R4.out.put0 (.int .i64 0) (.int .i64 0)
      have r1 := R4.out.put1 (.int .i64 0) (.int .i64 0)
      refine bodyPost_ret (v := .tuple #[.agg #[.int .i64 0, .int .i64 0], .int .i64 1]) (by simp [results, Tryd.results36, go_sem, r0, r1]) rfl ?_
      exact ⟨rfl, by repeat (first | exact D4.out | refine Below.setCell ?_ (by simp) _)⟩
  case true =>
    by_cases hT : T = s
    · subst hT
      rw [if_pos ⟨rfl, rfl⟩]
      cases c
      all_goals
        simp only [if_true, if_false, Bool.false_eq_true] at hD
        subst hD
        go_enter Tryd.func36, Tryd.ntmps36
        go_wp2_with fail
        refine (K1.out _ HC0.out).mono ?_
        rintro e w1 ⟨rfl, k1⟩
        have H1 := Lib.hid (H0.out.step0 k1)
        have B1 := Lib.hid (B0.out.trans (k1.mono B0.out.size))
        have HC1 := Lib.hid (HC0.out.below k1)
        clear k1
        go_wp2_with fail
        refine (K2.out _ HC1.out).mono ?_
        rintro e w2 ⟨rfl, k2⟩
        have H2 := Lib.hid (H1.out.step0 k2)
        have B2 := Lib.hid (B1.out.trans (k2.mono B1.out.size))
        have HC2 := Lib.hid (HC1.out.below k2)
        clear k2
        go_wp2_with fail
        refine (K3.out _ HC2.out).mono ?_
        rintro e w3 ⟨rfl, k3⟩
        have H3 := Lib.hid (H2.out.step0 k3)
        have B3 := Lib.hid (B2.out.trans (k3.mono B2.out.size))
        have HC3 := Lib.hid (HC2.out.below k3)
        clear k3
        have R := Lib.hid (H3.out.alloc (.cells #[.int .i64 n, .int .i64 d] 23))
        have F := Lib.hid (Has.new w3 23 #[.int .i64 n, .int .i64 d])
        have D := Lib.hid (B3.out.alloc B3.out.size (.cells #[.int .i64 n, .int .i64 d] 23))
        have HD := Lib.hid (HC3.out.below (below_alloc w3 (.cells #[.int .i64 n, .int .i64 d] 23)))
        have z := F.out.two
        obtain ⟨z1, z2, z3, z4, z5⟩ := z
        go_wp2_with fail
        refine (K4.out _).mono ?_
        rintro e w4 ⟨rfl, k4⟩
        have R4 := Lib.hid (R.out.step0 k4)
        have F4 := Lib.hid (F.out.step0 k4)
        have D4 := Lib.hid (D.out.trans (k4.mono D.out.size))
        have HC4 := Lib.hid (HD.out.below k4)
        clear k4 z1 z2 z3 z4 z5
        generalize w3.heap.size = g3 at *
        obtain ⟨z1, z2, z3, z4, z5⟩ := F4.out.two
        go_wp2_with fail
        refine (K5.out _ HC4.out).mono ?_
        rintro e w5 ⟨rfl, k5⟩
        have R5 := Lib.hid (R4.out.step0 k5)
        have F5 := Lib.hid (F4.out.step0 k5)
        have D5 := Lib.hid (D4.out.trans (k5.mono D4.out.size))
        clear k5 z1 z2 z3 z4 z5
        obtain ⟨z1, z2, z3, z4, z5⟩ := F5.out.two
        obtain ⟨y1, y2, y3, y4, y5⟩ := R5.out.two
        go_wp2_with fail
        have r0 := R5.out.put0 (.int .i64 n) (.int .i64 d)
        have r1 := R5.out.put1 (.int .i64 n) (.int .i64 d)
        refine bodyPost_ret (v := .tuple #[.agg #[.int .i64 n, .int .i64 d], .int .i64 0]) (by simp [results, Tryd.results36, go_sem, r0, r1]) rfl ?_
        exact ⟨rfl, by repeat (first | exact D5.out | refine Below.setCell ?_ (by simp) _)⟩
    · rw [if_neg (fun h => hT h.2)]
      have t2 : ¬ s = T := fun h => hT h.symm
      have t4 : ¬ T.toList = s.toList := fun h => hT (by rw [ByteArray.toList_eq, ByteArray.toList_eq] at h; exact Go.WideShapes.bytes_inj h)
      have t5 : (T.toList == s.toList) = false := by simpa using t4
      cases c
      all_goals
        simp only [if_true, if_false, Bool.false_eq_true] at hD
        subst hD
        go_enter Tryd.func36, Tryd.ntmps36
        go_wp2_with fail
        refine (K1.out _ HC0.out).mono ?_
        rintro e w1 ⟨rfl, k1⟩
        have H1 := Lib.hid (H0.out.step0 k1)
        have B1 := Lib.hid (B0.out.trans (k1.mono B0.out.size))
        have HC1 := Lib.hid (HC0.out.below k1)
        clear k1
        go_wp2_with fail
        refine (K2.out _ HC1.out).mono ?_
        rintro e w2 ⟨rfl, k2⟩
        have H2 := Lib.hid (H1.out.step0 k2)
        have B2 := Lib.hid (B1.out.trans (k2.mono B1.out.size))
        have HC2 := Lib.hid (HC1.out.below k2)
        clear k2
        go_wp2_with fail
        refine (K3.out _ HC2.out).mono ?_
        rintro e w3 ⟨rfl, k3⟩
        have H3 := Lib.hid (H2.out.step0 k3)
        have B3 := Lib.hid (B2.out.trans (k3.mono B2.out.size))
        have HC3 := Lib.hid (HC2.out.below k3)
        clear k3
        have R := Lib.hid (H3.out.alloc (.cells #[.int .i64 n, .int .i64 d] 23))
        have F := Lib.hid (Has.new w3 23 #[.int .i64 n, .int .i64 d])
        have D := Lib.hid (B3.out.alloc B3.out.size (.cells #[.int .i64 n, .int .i64 d] 23))
        have HD := Lib.hid (HC3.out.below (below_alloc w3 (.cells #[.int .i64 n, .int .i64 d] 23)))
        have z := F.out.two
        obtain ⟨z1, z2, z3, z4, z5⟩ := z
        go_wp2_with fail
        refine (K4.out _).mono ?_
        rintro e w4 ⟨rfl, k4⟩
        have R4 := Lib.hid (R.out.step0 k4)
        have F4 := Lib.hid (F.out.step0 k4)
        have D4 := Lib.hid (D.out.trans (k4.mono D.out.size))
        have HC4 := Lib.hid (HD.out.below k4)
        clear k4 z1 z2 z3 z4 z5
        generalize w3.heap.size = g3 at *
        obtain ⟨z1, z2, z3, z4, z5⟩ := F4.out.two
        go_wp2_with fail
        refine (K5.out _ HC4.out).mono ?_
        rintro e w5 ⟨rfl, k5⟩
        have R5 := Lib.hid (R4.out.step0 k5)
        have D5 := Lib.hid (D4.out.trans (k5.mono D4.out.size))
        clear k5 z1 z2 z3 z4 z5
        obtain ⟨y1, y2, y3, y4, y5⟩ := R5.out.two
        go_wp2_with fail
        have r0 := R5.out.put0 (.int .i64 0) (.int .i64 0)
        have r1 := R5.out.put1 (.int .i64 0) (.int .i64 0)
        refine bodyPost_ret (v := .tuple #[.agg #[.int .i64 0, .int .i64 0], .int .i64 1]) (by simp [results, Tryd.results36, go_sem, r0, r1]) rfl ?_
        exact ⟨rfl, by repeat (first | exact D5.out | refine Below.setCell ?_ (by simp) _)⟩
end FracB3
end Go.Proofs.YtlamemhfnglfeaaDoor
