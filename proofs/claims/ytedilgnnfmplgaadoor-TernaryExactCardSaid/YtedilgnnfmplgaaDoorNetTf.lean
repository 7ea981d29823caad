/- ternary.fold at the two connectives. Conditions: the numbers are those of values; the tables are as laid. Made by gnTf.py. -/
import Derived.Test.YtedilgnnfmplgaaDoorNetTm
import Derived.Test.YtedilgnnfmplgaaDoorNetTt
import Derived.Test.YtedilgnnfmplgaaDoorGBB
namespace Go.Proofs.YtedilgnnfmplgaaDoor
open Go Go.RowKit
namespace NetTf
open Kit LexM TermM TermI NetM NetN NetK NetA NetC NetI NetTn NetTt NetTm
set_option maxRecDepth 100000 in
set_option maxHeartbeats 3200000 in
theorem foldand (l V : List Int) (v0 : Int) (ok okV : Nat → Prop) (w : World) (v v' : Value) (hl : RowE KN ok w l v) (hV : RowE KN okV w V v') (hk : ∀ b, ok b → b < w.heap.size) (hkV : ∀ b, okV b → b < w.heap.size) (hr : ∀ x ∈ l, 0 ≤ x ∧ x < (V.length : Int)) (ht : Tb w) :
    Calls Tryd.prog 34 #[.func (.func 10) #[] #[], .int .i64 v0, v, v'] w fun e w' => e = .returned (.int .i64 (tfold 4 V v0 l)) ∧ Below w.heap.size w w' := by
  obtain ⟨p, c, rfl⟩ := hl.form
  obtain ⟨p', c', rfl⟩ := hV.form
  have hcap : l.length ≤ maxLen := by obtain ⟨_, h1, h2⟩ := hl.cap; omega
  have hcap' : V.length ≤ maxLen := by obtain ⟨_, h1, h2⟩ := hV.cap; omega
  unfold maxLen at hcap hcap'
  have IR := Lib.hid (readn hl hk)
  have IV := Lib.hid (readn hV hkV)
  have HR : Hid (∀ x ∈ l, 0 ≤ x ∧ x < (V.length : Int)) := Lib.hid hr
  have TN := Lib.hid (fun i x (hx : l[i]? = some x) => tfold_next 4 V v0 l hx)
  have FIN : Hid (tfold 4 V v0 l = tfold 4 V v0 (l.take l.length)) := Lib.hid (by rw [List.take_length])
  have TA := Lib.hid (fun a b w' (q : Below w.heap.size w w') => and_any a b w' (ht.below q))
  clear hl hV hr hk hkV ht
  generalize tfold 4 V v0 l = R at *
  generalize hn : l.length = n at *
  have HN := Lib.hid hn
  clear hn
  generalize hm : V.length = m at *
  have HM := Lib.hid hm
  clear hm
  go_enter Tryd.func34, Tryd.ntmps34
  go_wp2_with fail
  go_loopw [9, 15] (fun s i wr => ∃ (k : Nat) (u : Int), k ≤ n ∧ i = .int .i64 k ∧ s = .int .i64 u ∧ Hid (u = tfold 4 V v0 (l.take k)) ∧ Hid (Below w.heap.size w wr)) (fun _ i _ => n - (intOf i).toNat)
  case atStart => exact ⟨0, v0, Nat.zero_le _, rfl, rfl, Lib.hid rfl, Lib.hid (Below.refl _ _)⟩
  case round =>
    obtain ⟨k, u, hk, rfl, rfl, hU, hD⟩ := hrel
    by_cases hlt : k < n
    · obtain ⟨x, hx⟩ : ∃ x, l[k]? = some x := ⟨l[k]'(by rw [HN.out]; exact hlt), by simp⟩
      obtain ⟨g, o, rfl, c1⟩ := IR.out k x hx wr hD.out
      have hxr := HR.out x (List.mem_of_getElem? hx)
      obtain ⟨j, rfl⟩ : ∃ j : Nat, x = (j : Int) := ⟨x.toNat, by omega⟩
      have j0 : (0 : Int) ≤ (k : Int) := by omega
      have j1 : (k : Int) < n := by omega
      have j2 : (0 : Int) ≤ (j : Int) := by omega
      have j3 : (j : Int) < m := hxr.2
      obtain ⟨y, hy⟩ : ∃ y, V[j]? = some y := ⟨_, List.getElem?_eq_getElem (by have := HM.out; omega)⟩
      obtain ⟨g', o', rfl, c2⟩ := IV.out j y hy wr hD.out
      have VA : tAt V (j : Int) = y := t_get (by rw [Int.toNat_natCast]; exact hy)
      have U2 : Hid (tand u y = tfold 4 V v0 (l.take (k + 1))) := Lib.hid (by rw [TN.out k _ hx, VA, ← hU.out]; rfl)
      have CA := Lib.hid (TA.out u y wr hD.out)
      clear hx hy hxr VA hU
      generalize tand u y = u2 at *
      go_wp2_with fail
      refine CA.out.mono ?_
      rintro e w5 ⟨rfl, g5⟩
      have D5 : Hid (Below w.heap.size w w5) := Lib.hid (next0 hD.out g5)
      clear g5 CA c1 c2
      go_wp2_with fail
      go_roundw
      case rel => first | exact ⟨k + 1, u2, by omega, by go_num, rfl, U2, D5⟩ | ((repeat (apply Exists.intro)); refine ⟨?_, rfl⟩; exact ⟨k + 1, u2, by omega, by go_num, rfl, U2, D5⟩)
      case measure => simp [intOf] <;> omega
    · obtain rfl : k = n := by omega
      have e0 : Hid (u = R) := Lib.hid (by rw [hU.out, FIN.out])
      have j0 : ((k : Int) < (k : Int)) = False := by simp
      clear hU
      go_wp2_with fail
      go_ret
      exact ⟨by rw [e0.out]; rfl, hD.out⟩
set_option maxRecDepth 100000 in
set_option maxHeartbeats 3200000 in
theorem foldor (l V : List Int) (v0 : Int) (ok okV : Nat → Prop) (w : World) (v v' : Value) (hl : RowE KN ok w l v) (hV : RowE KN okV w V v') (hk : ∀ b, ok b → b < w.heap.size) (hkV : ∀ b, okV b → b < w.heap.size) (hr : ∀ x ∈ l, 0 ≤ x ∧ x < (V.length : Int)) (ht : Tb w) :
    Calls Tryd.prog 34 #[.func (.func 12) #[] #[], .int .i64 v0, v, v'] w fun e w' => e = .returned (.int .i64 (tfold 5 V v0 l)) ∧ Below w.heap.size w w' := by
  obtain ⟨p, c, rfl⟩ := hl.form
  obtain ⟨p', c', rfl⟩ := hV.form
  have hcap : l.length ≤ maxLen := by obtain ⟨_, h1, h2⟩ := hl.cap; omega
  have hcap' : V.length ≤ maxLen := by obtain ⟨_, h1, h2⟩ := hV.cap; omega
  unfold maxLen at hcap hcap'
  have IR := Lib.hid (readn hl hk)
  have IV := Lib.hid (readn hV hkV)
  have HR : Hid (∀ x ∈ l, 0 ≤ x ∧ x < (V.length : Int)) := Lib.hid hr
  have TN := Lib.hid (fun i x (hx : l[i]? = some x) => tfold_next 5 V v0 l hx)
  have FIN : Hid (tfold 5 V v0 l = tfold 5 V v0 (l.take l.length)) := Lib.hid (by rw [List.take_length])
  have TA := Lib.hid (fun a b w' (q : Below w.heap.size w w') => or_any a b w' (ht.below q))
  clear hl hV hr hk hkV ht
  generalize tfold 5 V v0 l = R at *
  generalize hn : l.length = n at *
  have HN := Lib.hid hn
  clear hn
  generalize hm : V.length = m at *
  have HM := Lib.hid hm
  clear hm
  go_enter Tryd.func34, Tryd.ntmps34
  go_wp2_with fail
  go_loopw [9, 15] (fun s i wr => ∃ (k : Nat) (u : Int), k ≤ n ∧ i = .int .i64 k ∧ s = .int .i64 u ∧ Hid (u = tfold 5 V v0 (l.take k)) ∧ Hid (Below w.heap.size w wr)) (fun _ i _ => n - (intOf i).toNat)
  case atStart => exact ⟨0, v0, Nat.zero_le _, rfl, rfl, Lib.hid rfl, Lib.hid (Below.refl _ _)⟩
  case round =>
    obtain ⟨k, u, hk, rfl, rfl, hU, hD⟩ := hrel
    by_cases hlt : k < n
    · obtain ⟨x, hx⟩ : ∃ x, l[k]? = some x := ⟨l[k]'(by rw [HN.out]; exact hlt), by simp⟩
      obtain ⟨g, o, rfl, c1⟩ := IR.out k x hx wr hD.out
      have hxr := HR.out x (List.mem_of_getElem? hx)
      obtain ⟨j, rfl⟩ : ∃ j : Nat, x = (j : Int) := ⟨x.toNat, by omega⟩
      have j0 : (0 : Int) ≤ (k : Int) := by omega
      have j1 : (k : Int) < n := by omega
      have j2 : (0 : Int) ≤ (j : Int) := by omega
      have j3 : (j : Int) < m := hxr.2
      obtain ⟨y, hy⟩ : ∃ y, V[j]? = some y := ⟨_, List.getElem?_eq_getElem (by have := HM.out; omega)⟩
      obtain ⟨g', o', rfl, c2⟩ := IV.out j y hy wr hD.out
      have VA : tAt V (j : Int) = y := t_get (by rw [Int.toNat_natCast]; exact hy)
      have U2 : Hid (tor u y = tfold 5 V v0 (l.take (k + 1))) := Lib.hid (by rw [TN.out k _ hx, VA, ← hU.out]; rfl)
      have CA := Lib.hid (TA.out u y wr hD.out)
      clear hx hy hxr VA hU
      generalize tor u y = u2 at *
      go_wp2_with fail
      refine CA.out.mono ?_
      rintro e w5 ⟨rfl, g5⟩
      have D5 : Hid (Below w.heap.size w w5) := Lib.hid (next0 hD.out g5)
      clear g5 CA c1 c2
      go_wp2_with fail
      go_roundw
      case rel => first | exact ⟨k + 1, u2, by omega, by go_num, rfl, U2, D5⟩ | ((repeat (apply Exists.intro)); refine ⟨?_, rfl⟩; exact ⟨k + 1, u2, by omega, by go_num, rfl, U2, D5⟩)
      case measure => simp [intOf] <;> omega
    · obtain rfl : k = n := by omega
      have e0 : Hid (u = R) := Lib.hid (by rw [hU.out, FIN.out])
      have j0 : ((k : Int) < (k : Int)) = False := by simp
      clear hU
      go_wp2_with fail
      go_ret
      exact ⟨by rw [e0.out]; rfl, hD.out⟩
end NetTf
end Go.Proofs.YtedilgnnfmplgaaDoor
