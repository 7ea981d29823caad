/- Word, skip, the kinds of runs: contracts. -/
import Derived.Test.YtdalepdpobcpaaaDoorLexB
import Derived.Test.YtdalepdpobcpaaaDoorLexC
import Derived.Test.YtdalepdpobcpaaaDoorLexD
namespace Go.Proofs.YtdalepdpobcpaaaDoor
open Go Go.RowKit
namespace LexE
open Kit LexM LexA LexB LexC LexD
/-- The variable 'words' holds the three reserved words. -/
def Wd (w : World) : Prop := 0 < w.heap.size ∧ w.cell? ⟨0, 0, none⟩ = some (.string ⟨#[105, 102]⟩) ∧ w.cell? ⟨0, 1, none⟩ = some (.string ⟨#[97, 110, 100]⟩) ∧ w.cell? ⟨0, 2, none⟩ = some (.string ⟨#[110, 111, 116]⟩)
theorem Wd.below {w w' : World} {B : Nat} (h : Wd w) (hb : Below B w w') (hB : 0 < B) : Wd w' :=
  ⟨Nat.lt_of_lt_of_le h.1 hb.size, (hb.cell (p := ⟨0, 0, none⟩) hB).trans h.2.1, (hb.cell (p := ⟨0, 1, none⟩) hB).trans h.2.2.1, (hb.cell (p := ⟨0, 2, none⟩) hB).trans h.2.2.2⟩
set_option maxHeartbeats 1600000 in
theorem word_any (s : ByteArray) (w : World) (hw : Wd w) :
    Calls Tryd.prog 87 #[.string s] w fun e w' => e = .returned (.bool (resB s.data.toList)) ∧ w = w' := by
  obtain ⟨h0, c0, c1, c2⟩ := hw
  have E := Lib.hid (ByteArray.toList_eq s)
  have i0 : ∀ w, (Instr.index 96 (.agg #[.string ⟨#[105, 102]⟩, .string ⟨#[97, 110, 100]⟩, .string ⟨#[110, 111, 116]⟩]) (.int .i64 0)).run Tryd.prog w = .ok (.string ⟨#[105, 102]⟩) w := fun _ => by kernel_rfl
  have i1 : ∀ w, (Instr.index 96 (.agg #[.string ⟨#[105, 102]⟩, .string ⟨#[97, 110, 100]⟩, .string ⟨#[110, 111, 116]⟩]) (.int .i64 1)).run Tryd.prog w = .ok (.string ⟨#[97, 110, 100]⟩) w := fun _ => by kernel_rfl
  have i2 : ∀ w, (Instr.index 96 (.agg #[.string ⟨#[105, 102]⟩, .string ⟨#[97, 110, 100]⟩, .string ⟨#[110, 111, 116]⟩]) (.int .i64 2)).run Tryd.prog w = .ok (.string ⟨#[110, 111, 116]⟩) w := fun _ => by kernel_rfl
  go_enter Tryd.func87, Tryd.ntmps87
  go_wp2_with fail
  have HR : Hid (resB s.data.toList = (s.toList == [105, 102] || s.toList == [97, 110, 100] || s.toList == [110, 111, 116])) := by rw [E.out]; exact rfl
  refine wp_loop_rounds 4 ?_
  cases q1 : (s.toList == [105, 102])
  case true =>
    have p1 : s.toList = [105, 102] := by simpa using q1
    have V : Hid (resB s.data.toList = true) := by rw [HR.out, q1]; exact rfl
    rw [rounds_succ]
    go_wp2_with fail
    go_ret
    exact ⟨ret_bool V.out.symm, rfl⟩
  have p1 : ¬ s.toList = [105, 102] := by simpa using q1
  cases q2 : (s.toList == [97, 110, 100])
  case true =>
    have p2 : s.toList = [97, 110, 100] := by simpa using q2
    have V : Hid (resB s.data.toList = true) := by rw [HR.out, q1, q2]; exact rfl
    clear p1
    rw [rounds_succ]
    go_wp2_with fail
    rw [rounds_succ]
    go_wp2_with fail
    go_ret
    exact ⟨ret_bool V.out.symm, rfl⟩
  have p2 : ¬ s.toList = [97, 110, 100] := by simpa using q2
  cases q3 : (s.toList == [110, 111, 116])
  case true =>
    have p3 : s.toList = [110, 111, 116] := by simpa using q3
    have V : Hid (resB s.data.toList = true) := by rw [HR.out, q1, q2, q3]; exact rfl
    clear p1 p2
    rw [rounds_succ]
    go_wp2_with fail
    rw [rounds_succ]
    go_wp2_with fail
    rw [rounds_succ]
    go_wp2_with fail
    go_ret
    exact ⟨ret_bool V.out.symm, rfl⟩
  have p3 : ¬ s.toList = [110, 111, 116] := by simpa using q3
  have V : Hid (resB s.data.toList = false) := by rw [HR.out, q1, q2, q3]; exact rfl
  rw [rounds_succ]
  go_wp2_with fail
  rw [rounds_succ]
  go_wp2_with fail
  rw [rounds_succ]
  go_wp2_with fail
  rw [rounds_succ]
  go_wp2_with fail
  go_ret
  exact ⟨ret_bool V.out.symm, rfl⟩
/-- How far a predicate holds. -/
def spanL (p : Int → Bool) (l : List UInt8) : Nat := (l.takeWhile (fun b => p b.toNat)).length
theorem spanL_le (p : Int → Bool) (l : List UInt8) : spanL p l ≤ l.length := by unfold spanL; exact (List.takeWhile_prefix _).length_le
theorem span_next (p : Int → Bool) (s : ByteArray) (k : Nat) (h : k < s.size) : spanL p (s.data.toList.drop k) = if p s[k].toNat = true then spanL p (s.data.toList.drop (k + 1)) + 1 else 0 := by
  have hl : k < s.data.toList.length := by simpa using h
  unfold spanL
  rw [List.drop_eq_getElem_cons hl, List.takeWhile_cons]
  have e : s.data.toList[k] = s[k] := rfl
  rw [e]
  by_cases c : p s[k].toNat = true
  · rw [if_pos c, if_pos c]; simp
  · rw [if_neg c, if_neg c]; simp
theorem span_end (p : Int → Bool) (s : ByteArray) (k : Nat) (h : s.size ≤ k) : spanL p (s.data.toList.drop k) = 0 := by
  rw [List.drop_eq_nil_of_le (by simpa using h)]; rfl
set_option maxHeartbeats 1600000 in
theorem skip_line (s : ByteArray) (at_ : Nat) (w : World) (hs : s.size ≤ 140737488355328) (ha : at_ ≤ s.size) :
    Calls Tryd.prog 78 #[.string s, .int .i64 at_, .func (.func 79) #[] #[]] w fun e w' => e = .returned (.int .i64 ((at_ + spanL ncB (s.data.toList.drop at_) : Nat) : Int)) ∧ w = w' := by
  have F := Lib.hid line_any
  generalize hR : at_ + spanL ncB (s.data.toList.drop at_) = R
  have HR := Lib.hid hR
  clear hR
  go_enter Tryd.func78, Tryd.ntmps78
  go_wp2_with fail
  go_loop [1] (fun i => ∃ k : Nat, k ≤ s.size ∧ i = .int .i64 k ∧ Hid (k + spanL ncB (s.data.toList.drop k) = R)) (fun i => s.size - (intOf i).toNat)
  case atStart => exact ⟨at_, ha, rfl, HR⟩
  case round =>
    obtain ⟨k, hk, rfl, hA⟩ := hrel
    by_cases hlt : k < s.size
    · have hn := span_next ncB s k hlt
      cases c : ncB s[k].toNat
      · rw [c, if_neg (by simp)] at hn
        have HX := hA.out
        rw [hn, Nat.add_zero] at HX
        subst HX
        clear hA hn HR
        go_wp2_with fail
        refine (F.out _ _).mono ?_
        rintro e w' ⟨rfl, rfl⟩
        go_wp2_with fail
        go_ret
        exact ⟨rfl, rfl⟩
      · rw [c, if_pos rfl] at hn
        have HX : Hid (k + 1 + spanL ncB (s.data.toList.drop (k + 1)) = R) := by rw [← hA.out, hn]; exact Lib.hid (by omega)
        clear hA hn HR
        go_wp2_with fail
        refine (F.out _ _).mono ?_
        rintro e w' ⟨rfl, rfl⟩
        go_wp2_with fail
        go_round
        case rel => exact ⟨k + 1, by omega, by go_num, HX⟩
        case measure => simp [intOf]; omega
    · have hn := span_end ncB s k (by omega)
      have HX := hA.out
      rw [hn, Nat.add_zero] at HX
      subst HX
      clear hA hn HR
      go_wp2_with fail
      go_ret
      exact ⟨rfl, rfl⟩
set_option maxHeartbeats 1600000 in
theorem skip_run (s : ByteArray) (at_ : Nat) (w : World) (hs : s.size ≤ 140737488355328) (ha : at_ ≤ s.size) :
    Calls Tryd.prog 78 #[.string s, .int .i64 at_, .func (.func 81) #[] #[]] w fun e w' => e = .returned (.int .i64 ((at_ + spanL ruB (s.data.toList.drop at_) : Nat) : Int)) ∧ w = w' := by
  have F := Lib.hid run_any
  generalize hR : at_ + spanL ruB (s.data.toList.drop at_) = R
  have HR := Lib.hid hR
  clear hR
  go_enter Tryd.func78, Tryd.ntmps78
  go_wp2_with fail
  go_loop [1] (fun i => ∃ k : Nat, k ≤ s.size ∧ i = .int .i64 k ∧ Hid (k + spanL ruB (s.data.toList.drop k) = R)) (fun i => s.size - (intOf i).toNat)
  case atStart => exact ⟨at_, ha, rfl, HR⟩
  case round =>
    obtain ⟨k, hk, rfl, hA⟩ := hrel
    by_cases hlt : k < s.size
    · have hn := span_next ruB s k hlt
      cases c : ruB s[k].toNat
      · rw [c, if_neg (by simp)] at hn
        have HX := hA.out
        rw [hn, Nat.add_zero] at HX
        subst HX
        clear hA hn HR
        go_wp2_with fail
        refine (F.out _ _).mono ?_
        rintro e w' ⟨rfl, rfl⟩
        go_wp2_with fail
        go_ret
        exact ⟨rfl, rfl⟩
      · rw [c, if_pos rfl] at hn
        have HX : Hid (k + 1 + spanL ruB (s.data.toList.drop (k + 1)) = R) := by rw [← hA.out, hn]; exact Lib.hid (by omega)
        clear hA hn HR
        go_wp2_with fail
        refine (F.out _ _).mono ?_
        rintro e w' ⟨rfl, rfl⟩
        go_wp2_with fail
        go_round
        case rel => exact ⟨k + 1, by omega, by go_num, HX⟩
        case measure => simp [intOf]; omega
    · have hn := span_end ruB s k (by omega)
      have HX := hA.out
      rw [hn, Nat.add_zero] at HX
      subst HX
      clear hA hn HR
      go_wp2_with fail
      go_ret
      exact ⟨rfl, rfl⟩
end LexE
end Go.Proofs.YtdalepdpobcpaaaDoor
