/- TermNames' walk. -/
import Derived.Test.YteabkoibinbcdaaDoorTermW
namespace Go.Proofs.YteabkoibinbcdaaDoor
open Go Go.RowKit
namespace TermL1
open LexM TermM Kit TermT TermW TermB TermC TermD
set_option maxHeartbeats 3200000 in
theorem names (s : ByteArray) (w : World) (hw : Wd w) (hs : s.size ≤ 9223372036854775807) : Calls Tryd.prog 3 #[.string s] w fun e w' => e = .returned (.bool true) ∧ Below w.heap.size w w' := by
  have CA := Lib.hid (awake_any w hw)
  clear hw
  by_cases h : 400 < s.size
  · go_enter Tryd.func3, Tryd.ntmps3
    go_wp2_with fail
    refine CA.out.mono ?_
    rintro e w' ⟨rfl, k⟩
    have K := Lib.hid k
    clear k
    go_wp2_with fail
    go_ret
    exact ⟨rfl, K.out⟩
  · have K1 := Lib.hid (fun w => num_any s w hs)
    have K2 := Lib.hid (fun w => rnum_any s w hs)
    have K3 := Lib.hid (fun w => name_any s w hs)
    have K4 := Lib.hid (fun w => rname_any s w hs)
    have K5 := Lib.hid (fun w => var_any s w hs)
    have K6 := Lib.hid (fun w => rvar_any s w hs)
    have h' : s.size ≤ 400 := by omega
    clear h
    generalize numV s.data.toList = n at *
    generalize isNum s.data.toList = a at *
    generalize nameL s.data.toList = b at *
    generalize varL s.data.toList = c at *
    go_enter Tryd.func3, Tryd.ntmps3
    go_wp2_with (first | (go_at_call 11; refine (K1.out _).mono ?_; rintro e w' ⟨rfl, rfl⟩) | (go_at_call 12; refine (K2.out _).mono ?_; rintro e w' ⟨rfl, rfl⟩) | (go_at_call 13; refine (K3.out _).mono ?_; rintro e w' ⟨rfl, rfl⟩) | (go_at_call 14; refine (K4.out _).mono ?_; rintro e w' ⟨rfl, rfl⟩) | (go_at_call 15; refine (K5.out _).mono ?_; rintro e w' ⟨rfl, rfl⟩) | (go_at_call 16; refine (K6.out _).mono ?_; rintro e w' ⟨rfl, rfl⟩))
    refine CA.out.mono ?_
    rintro e w' ⟨rfl, k⟩
    have K := Lib.hid k
    clear k
    go_wp2_with fail
    go_ret
    exact ⟨rfl, K.out⟩
end TermL1
end Go.Proofs.YteabkoibinbcdaaDoor
