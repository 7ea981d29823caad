/- delta's engine: a nil engine; whether it is returned; Work, Value of one that is. No conditions but those that are written. Made by gnDn.py. -/
import Derived.Test.YtgbbpliihglijaaGreatGBD
import Derived.LaidEqlPtr
namespace Go.Proofs.YtgbbpliihglijaaGreat
open Go Go.RowKit
namespace NetDn
open Kit TermM TermI NetM NetN NetK NetA NetC NetI NetMk NetNu NetOk NetEv NetBo
set_option maxRecDepth 100000 in
theorem returned_nil (w : World) : Calls Tryz.prog 27 #[.pointer none] w fun e w' => e = .returned (.bool false) ∧ w = w' := by
  go_enter Tryz.func27, Tryz.ntmps27
  go_wp2_with fail
  go_ret
  exact ⟨rfl, rfl⟩
theorem engine_same (a : Addr) (w : World) : (binOp .eql 33 (.pointer (some a)) (.pointer (some a))).run Tryz.prog w = .ok (.bool true) w := by
  have h1 : Tryz.prog.underlying 33 = some (.pointer 68) := by kernel_rfl
  have h2 : (Tryz.prog.info? 68).isSome = true := by kernel_rfl
  obtain ⟨j, hj⟩ := Option.isSome_iff_exists.1 h2
  exact run_eql_ptr_same w a h1 hj
set_option maxRecDepth 100000 in
theorem returned_live (g : Nat) (w : World) (h : w.cell? ⟨g, 0, none⟩ = some (.pointer (some ⟨g, 0, none⟩))) : Calls Tryz.prog 27 #[.pointer (some ⟨g, 0, none⟩)] w fun e w' => e = .returned (.bool true) ∧ w = w' := by
  have be := engine_same ⟨g, 0, none⟩
  go_enter Tryz.func27, Tryz.ntmps27
  go_wp2_with fail
  go_ret
  exact ⟨rfl, rfl⟩
set_option maxRecDepth 100000 in
theorem set_nil (p p1 : Option Addr) (n c n1 c1 : Nat) (w : World) : Calls Tryz.prog 9 #[.pointer none, .slice p n c, .slice p1 n1 c1] w fun e w' => e = .returned (.tuple #[.int .i64 0, .int .i64 13]) ∧ w = w' := by
  have CR := Lib.hid (returned_nil w)
  go_enter Tryz.func9, Tryz.ntmps9
  go_wp2_with fail
  refine CR.out.mono ?_
  rintro e w' ⟨rfl, rfl⟩
  clear CR
  go_wp2_with fail
  refine bodyPost_ret (v := .tuple #[.int .i64 0, .int .i64 13]) (by simp [results, Tryz.results9, go_sem]) rfl ?_
  exact ⟨rfl, rfl⟩
set_option maxRecDepth 100000 in
theorem state_nil (w : World) : Calls Tryz.prog 11 #[.pointer none] w fun e w' => e = .returned (.tuple #[.slice none 0 0, .slice none 0 0]) ∧ w = w' := by
  have CR := Lib.hid (returned_nil w)
  go_enter Tryz.func11, Tryz.ntmps11
  go_wp2_with fail
  refine CR.out.mono ?_
  rintro e w' ⟨rfl, rfl⟩
  clear CR
  go_wp2_with fail
  refine bodyPost_ret (v := .tuple #[.slice none 0 0, .slice none 0 0]) (by simp [results, Tryz.results11, go_sem]) rfl ?_
  exact ⟨rfl, rfl⟩
set_option maxRecDepth 100000 in
theorem value_nil (g : Int) (w : World) : Calls Tryz.prog 16 #[.pointer none, .int .i64 g] w fun e w' => e = .returned (.bool false) ∧ w = w' := by
  have CR := Lib.hid (returned_nil w)
  go_enter Tryz.func16, Tryz.ntmps16
  go_wp2_with fail
  refine CR.out.mono ?_
  rintro e w' ⟨rfl, rfl⟩
  clear CR
  go_wp2_with fail
  go_ret
  exact ⟨rfl, rfl⟩
set_option maxRecDepth 100000 in
theorem values_nil (w : World) : Calls Tryz.prog 14 #[.pointer none] w fun e w' => e = .returned (.slice none 0 0) ∧ w = w' := by
  have CR := Lib.hid (returned_nil w)
  go_enter Tryz.func14, Tryz.ntmps14
  go_wp2_with fail
  refine CR.out.mono ?_
  rintro e w' ⟨rfl, rfl⟩
  clear CR
  go_wp2_with fail
  go_ret
  exact ⟨rfl, rfl⟩
set_option maxRecDepth 100000 in
theorem work_nil (w : World) : Calls Tryz.prog 18 #[.pointer none] w fun e w' => e = .returned (.int .i64 0) ∧ w = w' := by
  have CR := Lib.hid (returned_nil w)
  go_enter Tryz.func18, Tryz.ntmps18
  go_wp2_with fail
  refine CR.out.mono ?_
  rintro e w' ⟨rfl, rfl⟩
  clear CR
  go_wp2_with fail
  go_ret
  exact ⟨rfl, rfl⟩
set_option maxRecDepth 100000 in
theorem work_live (g : Nat) (k : Int) (w : World) (h : w.cell? ⟨g, 0, none⟩ = some (.pointer (some ⟨g, 0, none⟩))) (h5 : w.cell? ⟨g, 5, none⟩ = some (.int .i64 k)) : Calls Tryz.prog 18 #[.pointer (some ⟨g, 0, none⟩)] w fun e w' => e = .returned (.int .i64 k) ∧ w = w' := by
  have CR := Lib.hid (returned_live g w h)
  go_enter Tryz.func18, Tryz.ntmps18
  go_wp2_with fail
  refine CR.out.mono ?_
  rintro e w' ⟨rfl, rfl⟩
  clear CR
  go_wp2_with fail
  go_ret
  exact ⟨rfl, rfl⟩
/-- The value of a gate of a list, false where there is none. -/
def valB (V : List Bool) (g : Int) : Bool := decide (0 ≤ g) && (decide (g < V.length) && vAt V g)
set_option maxRecDepth 100000 in
theorem value_live (ge : Nat) (V : List Bool) (g : Int) (w : World) (p : Option Addr) (c : Nat) (ok : Nat → Prop) (h : w.cell? ⟨ge, 0, none⟩ = some (.pointer (some ⟨ge, 0, none⟩))) (h2 : w.cell? ⟨ge, 2, none⟩ = some (.slice p V.length c)) (hV : RowE KB ok w V (.slice p V.length c)) (hk : ∀ b, ok b → b < w.heap.size) : Calls Tryz.prog 16 #[.pointer (some ⟨ge, 0, none⟩), .int .i64 g] w fun e w' => e = .returned (.bool (valB V g)) ∧ w = w' := by
  have CR := Lib.hid (returned_live ge w h)
  have IV := Lib.hid (readb hV hk)
  clear hV hk
  by_cases g0 : 0 ≤ g
  rotate_left
  · have e0 : valB V g = false := by unfold valB; rw [decide_eq_false g0]; rfl
    rw [e0]
    generalize V.length = lv at *
    have i1 : ¬ g ≥ 0 := g0
    go_enter Tryz.func16, Tryz.ntmps16
    go_wp2_with fail
    refine CR.out.mono ?_
    rintro e w' ⟨rfl, rfl⟩
    clear CR
    go_wp2_with fail
    go_ret
    exact ⟨rfl, rfl⟩
  by_cases g1 : g < V.length
  rotate_left
  · have e0 : valB V g = false := by unfold valB; rw [decide_eq_false g1, Bool.false_and, Bool.and_false]
    rw [e0]
    generalize V.length = lv at *
    go_enter Tryz.func16, Tryz.ntmps16
    go_wp2_with fail
    refine CR.out.mono ?_
    rintro e w' ⟨rfl, rfl⟩
    clear CR
    go_wp2_with fail
    go_ret
    exact ⟨rfl, rfl⟩
  obtain ⟨t, rfl⟩ : ∃ t : Nat, g = (t : Int) := ⟨g.toNat, by omega⟩
  obtain ⟨b, hb⟩ : ∃ b, V[t]? = some b := ⟨_, List.getElem?_eq_getElem (by omega)⟩
  obtain ⟨g', o', rfl, c2⟩ := IV.out t b hb w (Below.refl _ _)
  have e0 : valB V (t : Int) = b := by unfold valB; rw [decide_eq_true g0, decide_eq_true g1, Bool.true_and, Bool.true_and]; exact v_get (by rw [Int.toNat_natCast]; exact hb)
  rw [e0]
  clear hb e0
  generalize V.length = lv at *
  go_enter Tryz.func16, Tryz.ntmps16
  go_wp2_with fail
  refine CR.out.mono ?_
  rintro e w' ⟨rfl, rfl⟩
  clear CR
  go_wp2_with fail
  go_ret
  exact ⟨rfl, rfl⟩
end NetDn
end Go.Proofs.YtgbbpliihglijaaGreat
