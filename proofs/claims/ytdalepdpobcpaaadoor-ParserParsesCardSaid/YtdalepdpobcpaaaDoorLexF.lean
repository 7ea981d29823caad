/- The contracts of runKind, kind and piece. Conditions: the string's length, an offset within it, the variable of the reserved words. -/
import Derived.Test.YtdalepdpobcpaaaDoorLexE
namespace Go.Proofs.YtdalepdpobcpaaaDoor
open Go Go.RowKit
namespace LexF
open Kit LexM LexA LexB LexC LexD LexE
def kErr (k : Int) : Int := if k = 0 then 4 else 0
set_option maxHeartbeats 1600000 in
theorem runKind_any (s : ByteArray) (w : World) (hw : Wd w) (hs : s.size ≤ 140737488355328) :
    Calls Tryd.prog 82 #[.string s] w fun e w' => e = .returned (.tuple #[.int .i64 (kindL s.data.toList), .int .i64 (kErr (kindL s.data.toList))]) ∧ w = w' := by
  have V : Hid (kindL s.data.toList = if resB s.data.toList = true then 5 else if nameL s.data.toList = true then 1 else if isNum s.data.toList = true then 2 else if varL s.data.toList = true then 3 else 0) := rfl
  have C1 := Lib.hid (word_any s w hw)
  have C2 := Lib.hid (fun w => name_any s w hs)
  have C3 := Lib.hid (fun w => num_any s w hs)
  have C4 := Lib.hid (fun w => var_any s w hs)
  generalize kindL s.data.toList = K at *
  generalize resB s.data.toList = b1 at *
  generalize nameL s.data.toList = b2 at *
  generalize isNum s.data.toList = b3 at *
  generalize varL s.data.toList = b4 at *
  generalize numV s.data.toList = nv at *
  cases b1
  case true =>
    have Q : Hid (K = 5) := by rw [V.out]; exact rfl
    clear V
    go_enter Tryd.func82, Tryd.ntmps82
    go_wp2_with fail
    refine (C1.out).mono ?_
    rintro e w' ⟨rfl, rfl⟩
    go_wp2_with fail
    go_ret2
    exact ⟨congrArg Ending.returned (by rw [Q.out]; exact rfl), rfl⟩
  cases b2
  case true =>
    have Q : Hid (K = 1) := by rw [V.out]; exact rfl
    clear V
    go_enter Tryd.func82, Tryd.ntmps82
    go_wp2_with fail
    refine (C1.out).mono ?_
    rintro e w' ⟨rfl, rfl⟩
    go_wp2_with fail
    refine (C2.out _).mono ?_
    rintro e w' ⟨rfl, rfl⟩
    go_wp2_with fail
    go_ret2
    exact ⟨congrArg Ending.returned (by rw [Q.out]; exact rfl), rfl⟩
  cases b3
  case true =>
    have Q : Hid (K = 2) := by rw [V.out]; exact rfl
    clear V
    go_enter Tryd.func82, Tryd.ntmps82
    go_wp2_with fail
    refine (C1.out).mono ?_
    rintro e w' ⟨rfl, rfl⟩
    go_wp2_with fail
    refine (C2.out _).mono ?_
    rintro e w' ⟨rfl, rfl⟩
    go_wp2_with fail
    refine (C3.out _).mono ?_
    rintro e w' ⟨rfl, rfl⟩
    go_wp2_with fail
    go_ret2
    exact ⟨congrArg Ending.returned (by rw [Q.out]; exact rfl), rfl⟩
  cases b4
  case true =>
    have Q : Hid (K = 3) := by rw [V.out]; exact rfl
    clear V
    go_enter Tryd.func82, Tryd.ntmps82
    go_wp2_with fail
    refine (C1.out).mono ?_
    rintro e w' ⟨rfl, rfl⟩
    go_wp2_with fail
    refine (C2.out _).mono ?_
    rintro e w' ⟨rfl, rfl⟩
    go_wp2_with fail
    refine (C3.out _).mono ?_
    rintro e w' ⟨rfl, rfl⟩
    go_wp2_with fail
    refine (C4.out _).mono ?_
    rintro e w' ⟨rfl, rfl⟩
    go_wp2_with fail
    go_ret2
    exact ⟨congrArg Ending.returned (by rw [Q.out]; exact rfl), rfl⟩
  case false =>
    have Q : Hid (K = 0) := by rw [V.out]; exact rfl
    clear V
    go_enter Tryd.func82, Tryd.ntmps82
    go_wp2_with fail
    refine (C1.out).mono ?_
    rintro e w' ⟨rfl, rfl⟩
    go_wp2_with fail
    refine (C2.out _).mono ?_
    rintro e w' ⟨rfl, rfl⟩
    go_wp2_with fail
    refine (C3.out _).mono ?_
    rintro e w' ⟨rfl, rfl⟩
    go_wp2_with fail
    refine (C4.out _).mono ?_
    rintro e w' ⟨rfl, rfl⟩
    go_wp2_with fail
    go_ret2
    exact ⟨congrArg Ending.returned (by rw [Q.out]; exact rfl), rfl⟩
set_option maxHeartbeats 1600000 in
theorem kind_any (s : ByteArray) (w : World) (hs : s.size ≤ 140737488355328) :
    Calls Tryd.prog 72 #[.string s] w fun e w' => e = .returned (.int .i64 (kindL s.data.toList)) ∧ w = w' := by
  have V : Hid (kindL s.data.toList = if resB s.data.toList = true then 5 else if nameL s.data.toList = true then 1 else if isNum s.data.toList = true then 2 else if varL s.data.toList = true then 3 else 0) := rfl
  have C1 := Lib.hid (fun w => rword_any s w)
  have C2 := Lib.hid (fun w => rname_any s w hs)
  have C3 := Lib.hid (fun w => rnum_any s w hs)
  have C4 := Lib.hid (fun w => rvar_any s w hs)
  generalize kindL s.data.toList = K at *
  generalize resB s.data.toList = b1 at *
  generalize nameL s.data.toList = b2 at *
  generalize isNum s.data.toList = b3 at *
  generalize varL s.data.toList = b4 at *
  generalize numV s.data.toList = nv at *
  cases b1
  case true =>
    have Q : Hid (K = 5) := by rw [V.out]; exact rfl
    clear V
    go_enter Tryd.func72, Tryd.ntmps72
    go_wp2_with fail
    refine (C3.out _).mono ?_
    rintro e w' ⟨rfl, rfl⟩
    go_wp2_with fail
    refine (C1.out _).mono ?_
    rintro e w' ⟨rfl, rfl⟩
    go_wp2_with fail
    go_ret
    exact ⟨congrArg Ending.returned (by rw [Q.out]; exact rfl), rfl⟩
  cases b2
  case true =>
    have Q : Hid (K = 1) := by rw [V.out]; exact rfl
    clear V
    go_enter Tryd.func72, Tryd.ntmps72
    go_wp2_with fail
    refine (C3.out _).mono ?_
    rintro e w' ⟨rfl, rfl⟩
    go_wp2_with fail
    refine (C1.out _).mono ?_
    rintro e w' ⟨rfl, rfl⟩
    go_wp2_with fail
    refine (C2.out _).mono ?_
    rintro e w' ⟨rfl, rfl⟩
    go_wp2_with fail
    go_ret
    exact ⟨congrArg Ending.returned (by rw [Q.out]; exact rfl), rfl⟩
  cases b3
  case true =>
    have Q : Hid (K = 2) := by rw [V.out]; exact rfl
    clear V
    go_enter Tryd.func72, Tryd.ntmps72
    go_wp2_with fail
    refine (C3.out _).mono ?_
    rintro e w' ⟨rfl, rfl⟩
    go_wp2_with fail
    refine (C1.out _).mono ?_
    rintro e w' ⟨rfl, rfl⟩
    go_wp2_with fail
    refine (C2.out _).mono ?_
    rintro e w' ⟨rfl, rfl⟩
    go_wp2_with fail
    go_ret
    exact ⟨congrArg Ending.returned (by rw [Q.out]; exact rfl), rfl⟩
  cases b4
  case true =>
    have Q : Hid (K = 3) := by rw [V.out]; exact rfl
    clear V
    go_enter Tryd.func72, Tryd.ntmps72
    go_wp2_with fail
    refine (C3.out _).mono ?_
    rintro e w' ⟨rfl, rfl⟩
    go_wp2_with fail
    refine (C1.out _).mono ?_
    rintro e w' ⟨rfl, rfl⟩
    go_wp2_with fail
    refine (C2.out _).mono ?_
    rintro e w' ⟨rfl, rfl⟩
    go_wp2_with fail
    refine (C4.out _).mono ?_
    rintro e w' ⟨rfl, rfl⟩
    go_wp2_with fail
    go_ret
    exact ⟨congrArg Ending.returned (by rw [Q.out]; exact rfl), rfl⟩
  case false =>
    have Q : Hid (K = 0) := by rw [V.out]; exact rfl
    clear V
    go_enter Tryd.func72, Tryd.ntmps72
    go_wp2_with fail
    refine (C3.out _).mono ?_
    rintro e w' ⟨rfl, rfl⟩
    go_wp2_with fail
    refine (C1.out _).mono ?_
    rintro e w' ⟨rfl, rfl⟩
    go_wp2_with fail
    refine (C2.out _).mono ?_
    rintro e w' ⟨rfl, rfl⟩
    go_wp2_with fail
    refine (C4.out _).mono ?_
    rintro e w' ⟨rfl, rfl⟩
    go_wp2_with fail
    go_ret
    exact ⟨congrArg Ending.returned (by rw [Q.out]; exact rfl), rfl⟩
/-- What begins a list of bytes: kind, length, error. -/
def pieceF (l : List UInt8) : Int × Nat × Int :=
  match l with
  | [] => (0, 0, 1)
  | b :: _ =>
    if blB b.toNat = true then (0, 1, 0) else if ((b.toNat : Int) == 35) = true then (0, spanL ncB l, 0) else if syB b.toNat = true then (4, 1, 0)
    else if ruB b.toNat = true then (kindL (l.take (spanL ruB l)), spanL ruB l, kErr (kindL (l.take (spanL ruB l)))) else (0, 0, 1)
theorem piece_eq (s : ByteArray) (k : Nat) (h : k < s.size) : pieceF (s.data.toList.drop k) =
    if blB s[k].toNat = true then (0, 1, 0) else if ((s[k].toNat : Int) == 35) = true then (0, spanL ncB (s.data.toList.drop k), 0) else if syB s[k].toNat = true then (4, 1, 0)
    else if ruB s[k].toNat = true then (kindL ((s.data.toList.drop k).take (spanL ruB (s.data.toList.drop k))), spanL ruB (s.data.toList.drop k), kErr (kindL ((s.data.toList.drop k).take (spanL ruB (s.data.toList.drop k))))) else (0, 0, 1) := by
  have hl : k < s.data.toList.length := by simpa using h
  have e : s.data.toList.drop k = s[k] :: s.data.toList.drop (k + 1) := List.drop_eq_getElem_cons hl
  rw [e]; rfl
theorem ext_eq (s : ByteArray) (k n : Nat) : (s.extract k (k + n)).data.toList = (s.data.toList.drop k).take n := by
  rw [ByteArray.data_extract, Array.toList_extract, List.extract_eq_take_drop, show k + n - k = n from by omega]
theorem ext_size (s : ByteArray) (k n : Nat) (h : k + n ≤ s.size) : (s.extract k (k + n)).size = n := by
  rw [← len_eq, ext_eq, List.length_take, List.length_drop, len_eq]; omega
set_option maxHeartbeats 1600000 in
theorem piece_any (s : ByteArray) (k : Nat) (w : World) (hw : Wd w) (hs : s.size ≤ 140737488355328) (hk : k < s.size) :
    Calls Tryd.prog 68 #[.string s, .int .i64 k] w fun e w' => e = .returned (.tuple #[.int .i64 (pieceF (s.data.toList.drop k)).1, .int .i64 ((k + (pieceF (s.data.toList.drop k)).2.1 : Nat) : Int), .int .i64 (pieceF (s.data.toList.drop k)).2.2]) ∧ w = w' := by
  have hP := piece_eq s k hk
  have sp1 := spanL_le ncB (s.data.toList.drop k)
  have sp2 := spanL_le ruB (s.data.toList.drop k)
  have hlen : (s.data.toList.drop k).length = s.size - k := by simp
  rw [hlen] at sp1 sp2
  have CL := Lib.hid (fun w => skip_line s k w hs (Nat.le_of_lt hk))
  have CR := Lib.hid (fun w => skip_run s k w hs (Nat.le_of_lt hk))
  have HP := Lib.hid hP
  clear hP hlen
  generalize spanL ncB (s.data.toList.drop k) = n1 at *
  generalize hR : spanL ruB (s.data.toList.drop k) = n2 at *
  generalize pieceF (s.data.toList.drop k) = R at *
  cases c1 : blB s[k].toNat
  case true =>
    have Q : Hid (R = (0, 1, 0)) := by rw [HP.out, c1]; exact rfl
    clear HP
    go_enter Tryd.func68, Tryd.ntmps68
    go_wp2_with ((go_at_call 77; refine (blank_any _ _).mono ?_; rintro e w' ⟨rfl, rfl⟩))
    go_ret3
    exact ⟨congrArg Ending.returned (by rw [Q.out]; exact rfl), rfl⟩
  cases c2 : ((s[k].toNat : Int) == 35)
  case true =>
    have Q : Hid (R = (0, n1, 0)) := by rw [HP.out, c1, c2]; exact rfl
    clear HP
    go_enter Tryd.func68, Tryd.ntmps68
    go_wp2_with fail
    refine (blank_any _ _).mono ?_
    rintro e w' ⟨rfl, rfl⟩
    go_wp2_with fail
    refine (CL.out _).mono ?_
    rintro e w' ⟨rfl, rfl⟩
    go_wp2_with fail
    go_ret3
    exact ⟨congrArg Ending.returned (by rw [Q.out]; exact rfl), rfl⟩
  cases c3 : syB s[k].toNat
  case true =>
    have Q : Hid (R = (4, 1, 0)) := by rw [HP.out, c1, c2, c3]; exact rfl
    clear HP
    go_enter Tryd.func68, Tryd.ntmps68
    go_wp2_with fail
    refine (blank_any _ _).mono ?_
    rintro e w' ⟨rfl, rfl⟩
    go_wp2_with fail
    refine (symbol_any _ _).mono ?_
    rintro e w' ⟨rfl, rfl⟩
    go_wp2_with fail
    go_ret3
    exact ⟨congrArg Ending.returned (by rw [Q.out]; exact rfl), rfl⟩
  cases c4 : ruB s[k].toNat
  case true =>
    have Q : Hid (R = (kindL ((s.data.toList.drop k).take n2), n2, kErr (kindL ((s.data.toList.drop k).take n2)))) := by rw [HP.out, c1, c2, c3, c4]; exact rfl
    clear HP
    have hR' := Lib.hid hR
    clear hR
    have e1 : (k : Int) + (n2 : Int) ≤ (s.size : Int) := by omega
    have e2 : (k : Int) ≤ (k : Int) + (n2 : Int) := by omega
    go_enter Tryd.func68, Tryd.ntmps68
    go_wp2_with fail
    refine (blank_any _ _).mono ?_
    rintro e w' ⟨rfl, rfl⟩
    go_wp2_with fail
    refine (symbol_any _ _).mono ?_
    rintro e w' ⟨rfl, rfl⟩
    go_wp2_with fail
    refine (run_any _ _).mono ?_
    rintro e w' ⟨rfl, rfl⟩
    go_wp2_with fail
    refine (CR.out _).mono ?_
    rintro e w' ⟨rfl, rfl⟩
    go_wp2_with fail
    have RK := runKind_any (s.extract k (k + n2)) w hw (by rw [ext_size s k n2 (by omega)]; omega)
    rw [ext_eq] at RK
    refine RK.mono ?_
    rintro e w' ⟨rfl, rfl⟩
    generalize kindL ((s.data.toList.drop k).take n2) = K at *
    go_wp2_with fail
    go_ret3
    exact ⟨congrArg Ending.returned (by rw [Q.out]; exact rfl), rfl⟩
  case false =>
    have Q : Hid (R = (0, 0, 1)) := by rw [HP.out, c1, c2, c3, c4]; exact rfl
    clear HP
    go_enter Tryd.func68, Tryd.ntmps68
    go_wp2_with fail
    refine (blank_any _ _).mono ?_
    rintro e w' ⟨rfl, rfl⟩
    go_wp2_with fail
    refine (symbol_any _ _).mono ?_
    rintro e w' ⟨rfl, rfl⟩
    go_wp2_with fail
    refine (run_any _ _).mono ?_
    rintro e w' ⟨rfl, rfl⟩
    go_wp2_with fail
    go_ret3
    exact ⟨congrArg Ending.returned (by rw [Q.out]; exact rfl), rfl⟩
end LexF
end Go.Proofs.YtdalepdpobcpaaaDoor
