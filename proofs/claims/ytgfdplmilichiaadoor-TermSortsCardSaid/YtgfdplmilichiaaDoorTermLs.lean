/- gameplayerplain.Strings and the reference's Has, over rows of strings of the call's own. -/
import Derived.Test.YtgfdplmilichiaaDoorTermF
import Derived.Test.YtgfdplmilichiaaDoorTermEq
import Derived.Deep.DeepCutAuto
namespace Go.Proofs.YtgfdplmilichiaaDoor
open Go Go.RowKit
namespace TermLs
open LexM TermM TermI Kit TermN TermU TermL TermE TermF TermQ
theorem ba_beq (a b : ByteArray) (z : Bool) (h : z = true ↔ a = b) : (a.toList == b.toList) = z := by
  rw [Bool.eq_iff_iff, beq_iff_eq, h, ByteArray.toList_eq, ByteArray.toList_eq]
  exact ⟨fun hh => bytes_inj hh, fun hh => by rw [hh]⟩
theorem has_mem {xs : List ByteArray} {s : ByteArray} (h : s ∈ xs) : hasB xs s = true := by
  unfold hasB; rw [List.any_eq_true]; exact ⟨s, h, by simp⟩
theorem has_none {xs : List ByteArray} {s : ByteArray} (h : ∀ x ∈ xs, x ≠ s) : hasB xs s = false := by
  unfold hasB; rw [List.any_eq_false]; intro x hx hh
  exact h x hx (bytes_inj (by simpa using hh))
theorem s_at {l r : List ByteArray} {k : Nat} {x y : ByteArray} (h : l[k]? = some x) (h' : r[k]? = some y) : l.drop k = r.drop k ↔ x = y ∧ l.drop (k + 1) = r.drop (k + 1) := by
  rw [drop_get h, drop_get h']; simp
theorem s_end {l r : List ByteArray} {k : Nat} (h : l.length ≤ k) (h' : r.length ≤ k) : l.drop k = r.drop k := by
  rw [List.drop_eq_nil_of_le h, List.drop_eq_nil_of_le h']
set_option maxRecDepth 100000 in
set_option maxHeartbeats 3200000 in
theorem has_any (xs : List ByteArray) (s : ByteArray) (w : World) (base : Nat) (v : Value) (h : w.ownsRow base 9 1 v xs.length (strs xs)) (hl : xs.length ≤ 3000000) :
    Calls Tryd.prog 58 #[v, .string s] w fun e w' => e = .returned (.bool (hasB xs s)) ∧ Below w.heap.size w w' := by
  have HO := Lib.hid h
  have Q1 : Hid (∀ k x, xs[k]? = some x → x = s → hasB xs s = true) := Lib.hid (fun k x hx e => by subst e; exact has_mem (List.mem_of_getElem? hx))
  have Q2 : Hid ((∀ j x, j < xs.length → xs[j]? = some x → x ≠ s) → hasB xs s = false) := Lib.hid (fun hh => has_none (fun x hx e => by
    obtain ⟨j, hj, hx2⟩ := List.mem_iff_getElem.1 hx
    exact hh j x hj (by simp [hj, hx2]) e))
  obtain ⟨a, c, rfl⟩ := row_form h
  generalize hasB xs s = R at *
  generalize hn : xs.length = n at *
  have HN := Lib.hid hn
  clear h hn
  go_enter Tryd.func58, Tryd.ntmps58
  go_wp2_with fail
  go_loopw [8] (fun i wr => ∃ k : Nat, k ≤ n ∧ i = .int .i64 k ∧ Hid (∀ j x, j < k → xs[j]? = some x → x ≠ s) ∧ Hid (Below w.heap.size w wr)) (fun i _ => n - (intOf i).toNat)
  case atStart => exact ⟨0, Nat.zero_le _, rfl, Lib.hid (fun j x hj => absurd hj (Nat.not_lt_zero _)), Lib.hid (Below.refl _ _)⟩
  case round =>
    obtain ⟨k, hk, rfl, hA, hg⟩ := hrel
    by_cases hlt : k < n
    · obtain ⟨x, hx⟩ : ∃ x, xs[k]? = some x := ⟨xs[k]'(by rw [HN.out]; exact hlt), by simp⟩
      obtain ⟨g, cap, hav, hcell, _, _⟩ := row_str (xs := xs) (by rw [HN.out]; exact own_below HO.out hg.out) hx
      rw [HN.out] at hav
      injection hav with hav1 _ hav2
      subst hav1 hav2
      by_cases he : x = s
      · have hz : (x.toList == s.toList) = true := ba_beq _ _ _ (by simp [he])
        have HF := Lib.hid (Q1.out k x hx he)
        clear he hx
        go_wp2_with fail
        go_ret
        exact ⟨TermEq.ret_bool HF.out.symm, hg.out⟩
      · have hz : (x.toList == s.toList) = false := ba_beq _ _ _ (by simp [he])
        have HA2 : Hid (∀ j y, j < k + 1 → xs[j]? = some y → y ≠ s) := Lib.hid (fun j y hj hy => by
          by_cases e : j = k
          · subst e; rw [hx] at hy; injection hy with hy; subst hy; exact he
          · exact hA.out j y (by omega) hy)
        clear he hx
        go_wp2_with fail
        go_roundw
        case rel => exact ⟨k + 1, by omega, by go_num, HA2, hg⟩
        case measure => simp [intOf]; omega
    · obtain rfl : k = n := by omega
      have HF := Lib.hid (Q2.out hA.out)
      go_wp2_with fail
      go_ret
      exact ⟨TermEq.ret_bool HF.out.symm, hg.out⟩
set_option maxRecDepth 100000 in
set_option maxHeartbeats 3200000 in
theorem strings_any (xs ys : List ByteArray) (w : World) (base base' : Nat) (v v' : Value) (R : Bool) (hR : R = true ↔ xs = ys) (h : w.ownsRow base 9 1 v xs.length (strs xs)) (h' : w.ownsRow base' 9 1 v' ys.length (strs ys)) (hl : xs.length ≤ 3000000) (hl' : ys.length ≤ 3000000) :
    Calls Tryd.prog 29 #[v, v'] w fun e w' => e = .returned (.bool R) ∧ Below w.heap.size w w' := by
  have HO := Lib.hid h
  have HO' := Lib.hid h'
  have HQ := Lib.hid hR
  have L1 := Lib.hid (fun k x y h h' => s_at (l := xs) (r := ys) (k := k) (x := x) (y := y) h h')
  have L3 := Lib.hid (fun k h h' => s_end (l := xs) (r := ys) (k := k) h h')
  have L0 : Hid (R = true ↔ xs.drop 0 = ys.drop 0) := Lib.hid (by simpa using hR)
  obtain ⟨a, c, rfl⟩ := row_form h
  obtain ⟨a', c', rfl⟩ := row_form h'
  generalize hn : xs.length = n at *
  generalize hm : ys.length = m at *
  have HN := Lib.hid hn
  have HM := Lib.hid hm
  clear h h' hn hm hR
  by_cases hmm : n = m
  · subst hmm
    clear HQ
    go_enter Tryd.func29, Tryd.ntmps29
    go_wp2_with fail
    go_loopw [13] (fun i wr => ∃ k : Nat, k ≤ n ∧ i = .int .i64 k ∧ Hid (R = true ↔ xs.drop k = ys.drop k) ∧ Hid (Below w.heap.size w wr)) (fun i _ => n - (intOf i).toNat)
    case atStart => exact ⟨0, Nat.zero_le _, rfl, L0, Lib.hid (Below.refl _ _)⟩
    case round =>
      obtain ⟨k, hk, rfl, hA, hg⟩ := hrel
      by_cases hlt : k < n
      · obtain ⟨x, hx⟩ : ∃ x, xs[k]? = some x := ⟨xs[k]'(by rw [HN.out]; exact hlt), by simp⟩
        obtain ⟨y, hy⟩ : ∃ y, ys[k]? = some y := ⟨ys[k]'(by rw [HM.out]; exact hlt), by simp⟩
        obtain ⟨g, cap, hav, hcell, _, hgl⟩ := row_str (xs := xs) (by rw [HN.out]; exact own_below HO.out hg.out) hx
        rw [HN.out] at hav
        injection hav with hav1 _ hav2
        subst hav1 hav2
        obtain ⟨g', cap', hav', hcell', _, hgl'⟩ := row_str (xs := ys) (by rw [HM.out]; exact own_below HO'.out hg.out) hy
        rw [HM.out] at hav'
        injection hav' with hav1' _ hav2'
        subst hav1' hav2'
        have N1 := Lib.hid (hA.out.trans (L1.out k x y hx hy))
        clear hx hy
        by_cases he : x = y
        · have hz : (x.toList == y.toList) = true := ba_beq _ _ _ (by simp [he])
          have hz2 : (x.toList != y.toList) = false := by rw [bne, hz]; rfl
          have HF : Hid (R = true ↔ xs.drop (k + 1) = ys.drop (k + 1)) := Lib.hid (N1.out.trans ⟨fun hh => hh.2, fun hh => ⟨he, hh⟩⟩)
          clear N1 he
          go_upto_region 6 with fail
          go_cut [24] (fun s24 wx => s24 = .bool false ∧ Hid (Below w.heap.size w wx))
          case first =>
            go_region
            all_goals
              go_wp2_with fail
              go_meet
              exact ⟨rfl, Lib.hid hg.out.drew⟩
          case rest =>
            obtain ⟨rfl, G3⟩ := hcut
            go_wp2_with fail
            go_roundw
            case rel => exact ⟨k + 1, by omega, by go_num, HF, G3⟩
            case measure => simp [intOf]; omega
        · have hz : (x.toList == y.toList) = false := ba_beq _ _ _ (by simp [he])
          have hz2 : (x.toList != y.toList) = true := by rw [bne, hz]; rfl
          have HF : Hid (R = false) := Lib.hid (TermEq.b_iff_false N1.out (fun hh => he hh.1))
          clear N1 he
          go_upto_region 6 with fail
          go_cut [24] (fun s24 wx => s24 = .bool true ∧ Hid (Below w.heap.size w wx))
          case first =>
            go_region
            all_goals
              go_wp2_with fail
              go_meet
              exact ⟨rfl, Lib.hid hg.out.drew⟩
          case rest =>
            obtain ⟨rfl, G3⟩ := hcut
            go_wp2_with fail
            go_ret
            exact ⟨TermEq.ret_bool HF.out.symm, G3.out⟩
      · obtain rfl : k = n := by omega
        have HF : Hid (R = true) := Lib.hid (hA.out.2 (L3.out k (Nat.le_refl _) (Nat.le_refl _)))
        go_wp2_with fail
        go_ret
        exact ⟨TermEq.ret_bool HF.out.symm, hg.out⟩
  · have HF : Hid (R = false) := Lib.hid (TermEq.b_iff_false HQ.out (fun hh => hmm (by have h1 := HN.out; have h2 := HM.out; rw [hh] at h1; omega)))
    clear L0 HQ
    go_enter Tryd.func29, Tryd.ntmps29
    go_wp2_with fail
    go_ret
    exact ⟨TermEq.ret_bool HF.out.symm, Below.refl _ _⟩
end TermLs
end Go.Proofs.YtgfdplmilichiaaDoor
