/- find: binary search among bindings by the variable's name. Condition: at most 3000000 bindings, whose names are sorted around the one that is sought. -/
import Derived.Test.YtihbnonbhelbmaaGreatDoorUniA
import Derived.Test.YtihbnonbhelbmaaGreatDoorTermO
import Derived.BigQuiet
import Derived.Deep.RegionWith
import Derived.Deep.RegionHeld3
namespace Go.Proofs.YtihbnonbhelbmaaGreatDoor
open Go Go.RowKit
namespace UniC
open LexM TermM TermI Kit TermN TermU TermO UniK UniM UniA
theorem cmpf_any (b : Bd) (sv : Value) (u : ByteArray) (w : World) :
    Calls Tryz.prog 76 #[.agg #[.string b.1, .string b.2.nm, sv], .string u] w fun e w' => e = .returned (.int .i64 (lexB b.1.data.toList u.data.toList)) ∧ Gr w w' := by
  have C := Lib.hid (fun w' => cmpS_any b.1 u w')
  generalize lexB b.1.data.toList u.data.toList = z at *
  go_enter Tryz.func76, Tryz.ntmps76
  go_wp2_with fail
  refine (C.out _).mono ?_
  rintro e w' ⟨rfl, rfl⟩
  go_wp2_with fail
  go_ret
  exact ⟨rfl, Gr.alloc _ _⟩
def FoundS (s : List Bd) (u : ByteArray) (w : World) (e : Ending) (w' : World) : Prop :=
  (∃ (i : Nat) (f : Bool), i ≤ s.length ∧ e = .returned (.tuple #[.int .i64 i, .bool f]) ∧ (∀ (j : Nat) (y : Bd), j < i → s[j]? = some y → lexB y.1.data.toList u.data.toList < 0) ∧ (∀ (j : Nat) (y : Bd), i ≤ j → s[j]? = some y → 0 ≤ lexB y.1.data.toList u.data.toList) ∧ (f = true ↔ ∃ y, s[i]? = some y ∧ lexB y.1.data.toList u.data.toList = 0)) ∧ Gr w w'
set_option maxRecDepth 100000 in
set_option maxHeartbeats 3200000 in
theorem bs_any (s : List Bd) (u : ByteArray) (hS : ∀ (i j : Nat) (x y : Bd), i < j → s[i]? = some x → s[j]? = some y → lexB y.1.data.toList u.data.toList < 0 → lexB x.1.data.toList u.data.toList < 0) (hlen : s.length ≤ 3000000)
    (B : Nat) (w : World) (v : Value) (hB : B ≤ w.heap.size) (h : SIn (· < B) w s v) :
    Calls Tryz.prog 75 #[v, .string u, .func (.func 76) #[] #[]] w (FoundS s u w) := by
  obtain ⟨p, c, rfl, hc, hm, hR⟩ := SIn.row h
  have HR := Lib.hid hR
  have HB := Lib.hid hB
  have HS := Lib.hid hS
  unfold FoundS
  generalize hlm : s.length = m at *
  have HM := Lib.hid hlm
  have KALL := Lib.hid (fun wr (dw : Gr w wr) (k : Nat) (hlt : k < m) => by
    obtain ⟨x, b, o, q, d, hx, hp, hb, c1, c2, c3, _⟩ := (HR.out.gr dw HB.out) k (by rw [HM.out]; exact hlt)
    exact (⟨x, b, o, q, x.2.args.length, d, x.1, x.2.nm, hx, hp, c1, c2, c3, fun w2 => cmpf_any x _ u w2⟩ :
      ∃ (x : Bd) (b o : Nat) (q : Option Addr) (xa d : Nat) (xv xn : ByteArray), s[k]? = some x ∧ p = some ⟨b, o, none⟩ ∧ wr.cell? ⟨b, o + k * 3, none⟩ = some (.string xv) ∧ wr.cell? ⟨b, o + k * 3 + 1, none⟩ = some (.string xn) ∧ wr.cell? ⟨b, o + k * 3 + 1 + 1, none⟩ = some (.slice q xa d) ∧
        ∀ w2, Calls Tryz.prog 76 #[.agg #[.string xv, .string xn, .slice q xa d], .string u] w2 fun e w' => e = .returned (.int .i64 (lexB x.1.data.toList u.data.toList)) ∧ Gr w2 w'))
  clear hR h hc hm hlm hS hB HR
  go_enter Tryz.func75, Tryz.ntmps75
  go_wp2_with fail
  go_loopw [9, 10] (fun i j wr => ∃ lo hi : Nat, lo ≤ hi ∧ hi ≤ m ∧ i = .int .i64 lo ∧ j = .int .i64 hi ∧ Hid (∀ (j : Nat) (y : Bd), j < lo → s[j]? = some y → lexB y.1.data.toList u.data.toList < 0) ∧ Hid (∀ (j : Nat) (y : Bd), hi ≤ j → s[j]? = some y → 0 ≤ lexB y.1.data.toList u.data.toList) ∧ Hid (Gr w wr)) (fun i j _ => (intOf j).toNat - (intOf i).toNat)
  case atStart => exact ⟨0, m, Nat.zero_le _, Nat.le_refl _, rfl, rfl, Lib.hid (fun j y hj => absurd hj (Nat.not_lt_zero _)), Lib.hid (fun j y hj hy => by
    have h1 := (List.getElem?_eq_some_iff.1 hy).1
    have h2 := HM.out
    omega), Lib.hid (Gr.refl _)⟩
  case round =>
    obtain ⟨lo, hi, hlh, hhm, rfl, rfl, hA, hZ, hg⟩ := hrel
    by_cases hlt : lo < hi
    · obtain ⟨q0, hq0⟩ : ∃ q0, q0 = (lo + hi) / 2 := ⟨_, rfl⟩
      have e1 : ((lo : Int) + (hi : Int)) / 2 = (q0 : Int) := by omega
      have hq1 : lo ≤ q0 := by omega
      have hq2 : q0 < hi := by omega
      have hq3 : q0 < m := by omega
      obtain ⟨x, b, o, q, xa, d, xv, xn, hx, rfl, c1, c2, c3, KK0⟩ := KALL.out wr hg.out q0 hq3
      have KK := Lib.hid KK0
      have HX := Lib.hid hx
      clear KK0 hx hq0
      generalize hz : lexB x.1.data.toList u.data.toList = z at KK
      have HZ := Lib.hid hz
      clear hz
      clear KALL
      go_wp2_with fail
      refine (KK.out _).mono ?_
      rintro e w3 ⟨rfl, g3⟩
      have G3 := Lib.hid (hg.out.trans g3)
      clear g3 KK c1 c2 c3
      by_cases hz0 : z < 0
      · have HA2 : Hid (∀ (j : Nat) (y : Bd), j < q0 + 1 → s[j]? = some y → lexB y.1.data.toList u.data.toList < 0) := Lib.hid (fun j y hj hy => by
          have h1 := HZ.out
          by_cases e : j = q0
          · subst e; rw [HX.out] at hy; injection hy with hy; subst hy; omega
          · exact HS.out j q0 y x (by omega) hy HX.out (by omega))
        go_wp2_with fail
        go_roundw
        case rel => exact ⟨q0 + 1, hi, by omega, hhm, by go_num, rfl, HA2, hZ, G3⟩
        case measure => simp [intOf]; omega
      · have HZ2 : Hid (∀ (j : Nat) (y : Bd), q0 ≤ j → s[j]? = some y → 0 ≤ lexB y.1.data.toList u.data.toList) := Lib.hid (fun j y hj hy => by
          have h1 := HZ.out
          by_cases e : j = q0
          · subst e; rw [HX.out] at hy; injection hy with hy; subst hy; omega
          · have h2 := HS.out q0 j x y (by omega) HX.out hy
            omega)
        go_wp2_with fail
        go_roundw
        case rel => exact ⟨lo, q0, hq1, by omega, rfl, rfl, hA, HZ2, G3⟩
        case measure => simp [intOf]; omega
    · obtain rfl : lo = hi := by omega
      by_cases hlm : lo < m
      · obtain ⟨x, b, o, q, xa, d, xv, xn, hx, rfl, c1, c2, c3, KK0⟩ := KALL.out wr hg.out lo hlm
        have KK := Lib.hid KK0
        have HX := Lib.hid hx
        clear KK0 hx
        generalize hz : lexB x.1.data.toList u.data.toList = z at KK
        have HZ := Lib.hid hz
        clear hz
        obtain ⟨zb, hzb⟩ : ∃ zb, (z == 0) = zb := ⟨_, rfl⟩
        have HF : Hid (zb = true ↔ ∃ y, s[lo]? = some y ∧ lexB y.1.data.toList u.data.toList = 0) := Lib.hid (by
          rw [← hzb, beq_iff_eq]
          constructor
          · intro hh; exact ⟨x, HX.out, by rw [HZ.out]; exact hh⟩
          · rintro ⟨y, hy, hh⟩
            rw [HX.out] at hy; injection hy with hy; subst hy
            rw [← HZ.out]; exact hh)
        clear KALL HZ
        go_wp2_with fail
        refine (KK.out _).mono ?_
        rintro e w3 ⟨rfl, g3⟩
        have G3 := Lib.hid (hg.out.trans g3)
        clear g3 KK c1 c2 c3
        go_wp2_with fail
        go_ret2
        exact ⟨⟨lo, zb, by omega, rfl, hA.out, hZ.out, HF.out⟩, G3.out⟩
      · obtain rfl : lo = m := by omega
        have HF : Hid (false = true ↔ ∃ y, s[lo]? = some y ∧ lexB y.1.data.toList u.data.toList = 0) := Lib.hid (by
          constructor
          · intro hh; cases hh
          · rintro ⟨y, hy, _⟩
            have h1 := (List.getElem?_eq_some_iff.1 hy).1
            have h2 := HM.out
            omega)
        clear KALL
        go_wp2_with fail
        go_ret2
        exact ⟨⟨lo, false, by omega, rfl, hA.out, hZ.out, HF.out⟩, hg.out⟩
/-- Sorted by the variables' names, as a valid substitution is. -/
def Srt (s : List Bd) : Prop := ∀ (i j : Nat) (x y : Bd), i < j → s[i]? = some x → s[j]? = some y → lexB x.1.data.toList y.1.data.toList < 0
theorem srt_around {s : List Bd} (h : Srt s) (u : ByteArray) : ∀ (i j : Nat) (x y : Bd), i < j → s[i]? = some x → s[j]? = some y → lexB y.1.data.toList u.data.toList < 0 → lexB x.1.data.toList u.data.toList < 0 := fun i j x y hij hx hy h2 => by
  have h1 := h i j x y hij hx hy
  exact (tri_lex x.1.data.toList y.1.data.toList u.data.toList).2.1 h1 (by omega)
theorem find_any (s : List Bd) (u : ByteArray) (hS : Srt s) (hlen : s.length ≤ 3000000) (B : Nat) (w : World) (v : Value) (hB : B ≤ w.heap.size) (h : SIn (· < B) w s v) :
    Calls Tryz.prog 41 #[v, .string u] w (FoundS s u w) := by
  have C := Lib.hid (bs_any s u (srt_around hS u) hlen B w v hB h)
  obtain ⟨p, c, rfl⟩ := h.form
  clear h hS
  unfold FoundS at C ⊢
  generalize s.length = n at *
  go_enter Tryz.func41, Tryz.ntmps41
  go_wp2_with fail
  refine C.out.mono ?_
  rintro e w2 ⟨⟨i, f, h1, rfl, h2, h3, h4⟩, g⟩
  have H := Lib.hid (And.intro h2 (And.intro h3 h4))
  have G := Lib.hid g
  clear h2 h3 h4 g C
  go_wp2_with fail
  go_ret2
  exact ⟨⟨i, f, h1, rfl, H.out.1, H.out.2.1, H.out.2.2⟩, G.out⟩
end UniC
end Go.Proofs.YtihbnonbhelbmaaGreatDoor
