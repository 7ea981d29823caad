/- The comparison of two equal lists; the index of a number among weights. -/
import Derived.Test.YtdnonfoidamkcaaRandD
namespace Go.Proofs.Ytdnonfoidamkcaa
open Go Go.RowKit
namespace RandG
open Kit RandM RandC RandD
set_option maxRecDepth 100000 in
set_option maxHeartbeats 1600000 in
theorem ints_eq (g1 g2 m c1 c2 : Nat) (l : List Int) (w : World) (h1 : Has w g1 (vals l)) (h2 : Has w g2 (vals l)) (hl : l.length = m) (hm : m ≤ 4096) :
    Calls Try.prog 22 #[.slice (some ⟨g1, 0, none⟩) m c1, .slice (some ⟨g2, 0, none⟩) m c2] w fun e w' => e = .returned (.bool true) ∧ Below w.heap.size w w' := by
  have k1 := h1.lt
  have k2 := h2.lt
  have H1 := Lib.hid (fun w' (h : Below w.heap.size w w') => h1.below h k1)
  have H2 := Lib.hid (fun w' (h : Below w.heap.size w w') => h2.below h k2)
  have HL := Lib.hid hl
  clear h1 h2 hl
  go_enter Try.func22, Try.ntmps22
  go_wp2_with fail
  go_loopw [13] (fun i wL => ∃ k : Nat, k ≤ m ∧ i = .int .i64 k ∧ Hid (Below w.heap.size w wL)) (fun i _ => m - (intOf i).toNat)
  case atStart => exact ⟨0, Nat.zero_le _, rfl, Lib.hid (Below.refl _ _)⟩
  case round =>
    obtain ⟨k, hk, rfl, hb⟩ := hrel
    by_cases hlt : k < m
    · have x1 := Has.get (H1.out _ hb.out) k (by rw [HL.out]; exact hlt)
      have x2 := Has.get (H2.out _ hb.out) k (by rw [HL.out]; exact hlt)
      generalize l.getD k 0 = x at *
      go_wp2_with fail
      go_quiet (fail)
      all_goals
        go_wp2_with fail
        go_roundw
        case rel => exact ⟨k + 1, by omega, by go_num, Lib.hid (by first | exact hb.out.drew | exact below_drewN hb.out _)⟩
        case measure => simp [intOf] <;> omega
    · obtain rfl : k = m := by omega
      go_wp2_with fail
      go_ret
      exact ⟨rfl, hb.out⟩

/-- The weights l lie at an address. -/
def Ws (w : World) (b off : Nat) (l : List Int) : Prop := b < w.heap.size ∧ ∀ i x, l[i]? = some x → w.cell? ⟨b, off + i, none⟩ = some (.int .i64 x)
theorem Ws.below {w w' : World} {b off B : Nat} {l : List Int} (h : Ws w b off l) (hb : Below B w w') (hB : b < B) : Ws w' b off l :=
  ⟨Nat.lt_of_lt_of_le h.1 hb.size, fun i x hi => (hb.cell (p := ⟨b, off + i, none⟩) hB).trans (h.2 i x hi)⟩
theorem Ws.of {w : World} {g : Nat} {l : List Int} (h : Has w g (vals l)) : Ws w g 0 l :=
  ⟨h.lt, fun i x hi => by
    have hlt : i < l.length := (List.getElem?_eq_some_iff.1 hi).1
    rw [Nat.zero_add, Has.get h i hlt]
    simp [List.getD, hi]⟩
theorem at_next (l : List Int) (k : Int) (i : Nat) (x : Int) (h : l[i]? = some x) : at_ (l.drop i) k i = if k - wt x < 0 then (i : Int) else at_ (l.drop (i + 1)) (k - wt x) (i + 1) := by
  have hlt : i < l.length := (List.getElem?_eq_some_iff.1 h).1
  have hx : l[i] = x := (List.getElem?_eq_some_iff.1 h).2
  rw [List.drop_eq_getElem_cons hlt, hx, at_]
theorem at_end (l : List Int) (k : Int) (i : Nat) (h : l.length ≤ i) : at_ (l.drop i) k i = -1 := by
  rw [List.drop_eq_nil_of_le h, at_]
set_option maxRecDepth 100000 in
set_option maxHeartbeats 1600000 in
theorem index_any (b off m cap : Nat) (l : List Int) (k : Int) (w : World) (hw : Ws w b off l) (hl : l.length = m) (hm : m ≤ 4096) (h0 : 0 ≤ k) (h1 : k ≤ 281474976710656) :
    Calls Try.prog 27 #[.slice (some ⟨b, off, none⟩) m cap, .int .i64 k] w fun e w' => e = .returned (.int .i64 (at_ l k 0)) ∧ w = w' := by
  have HL := Lib.hid hl
  have HW := Lib.hid hw
  have HE : Hid (at_ (l.drop 0) k 0 = at_ l k 0) := by rw [List.drop_zero]; exact rfl
  generalize at_ l k 0 = R at *
  clear hl hw
  go_enter Try.func27, Try.ntmps27
  go_wp2_with fail
  go_loop [1, 9] (fun k i => ∃ (j : Nat) (q : Int), j ≤ m ∧ 0 ≤ q ∧ q ≤ 281474976710656 ∧ i = .int .i64 j ∧ k = .int .i64 q ∧ Hid (at_ (l.drop j) q j = R)) (fun _ i => m - (intOf i).toNat)
  case atStart => exact ⟨0, k, Nat.zero_le _, h0, h1, rfl, rfl, HE⟩
  case round =>
    obtain ⟨j, q, hj, hq0, hq1, rfl, rfl, hR⟩ := hrel
    by_cases hlt : j < m
    · obtain ⟨x, hx⟩ : ∃ x, l[j]? = some x := ⟨l[j]'(by rw [HL.out]; exact hlt), by simp⟩
      have c := HW.out.2 j x hx
      have hn := at_next l q j x hx
      rw [hR.out] at hn
      have hwt := wt_in x
      have LM := Lib.hid (fun w => limited_any x w)
      by_cases hneg : q - wt x < 0
      · rw [if_pos hneg] at hn
        subst hn
        clear hx
        generalize wt x = y at *
        go_wp2_with fail
        refine (LM.out _).mono ?_
        rintro e w' ⟨rfl, rfl⟩
        go_wp2_with fail
        go_ret
        exact ⟨rfl, rfl⟩
      · rw [if_neg hneg] at hn
        have HN := Lib.hid hn.symm
        clear hx hn hR
        generalize wt x = y at *
        go_wp2_with fail
        refine (LM.out _).mono ?_
        rintro e w' ⟨rfl, rfl⟩
        go_wp2_with fail
        go_round
        case rel => exact ⟨j + 1, _, by omega, by omega, by omega, by go_num, rfl, HN⟩
        case measure => simp [intOf] <;> omega
    · obtain rfl : j = m := by omega
      have he := at_end l q j (by rw [HL.out]; exact Nat.le_refl _)
      rw [hR.out] at he
      subst he
      clear hR HE
      go_wp2_with fail
      go_ret
      exact ⟨rfl, rfl⟩
end RandG
end Go.Proofs.Ytdnonfoidamkcaa
