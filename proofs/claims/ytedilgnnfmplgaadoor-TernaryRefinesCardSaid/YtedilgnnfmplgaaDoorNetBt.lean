/- Bits: the numbers whose bits are set. Conditions: the number fits 64 bits. Made by gnBt.py. -/
import Derived.Test.YtedilgnnfmplgaaDoorNetBp
import Derived.Test.YtedilgnnfmplgaaDoorGBD
namespace Go.Proofs.YtedilgnnfmplgaaDoor
open Go Go.RowKit
namespace NetBt
open Kit LexM TermM TermI NetM NetN NetK NetA NetI NetMk NetBp
/-- A new row of numbers. -/
def NlE (L : List Int) (w : World) (e : Ending) (w' : World) : Prop := ∃ v, e = .returned v ∧ RowE KN (fun b => w.heap.size ≤ b ∧ b < w'.heap.size) w' L v ∧ Below w.heap.size w w'
theorem NlE.mk {L : List Int} {w w' : World} {v : Value} (h : RowE KN (fun b => w.heap.size ≤ b ∧ b < w'.heap.size) w' L v) (h2 : Below w.heap.size w w') : NlE L w (.returned v) w' := ⟨v, rfl, h, h2⟩
set_option maxRecDepth 100000 in
set_option maxHeartbeats 3200000 in
theorem bits_any (b m : Nat) (hb : b < 18446744073709551616) (w : World) :
    Calls Tryd.prog 25 #[.int .u64 b, .int .i64 m] w (NlE (bitsL b m) w) := by
  obtain ⟨i0, hi0, hi1, hi2, hi3⟩ := info_parts Tryd.infoN
  have NS := Lib.hid (nil_own w.heap.size w 3 1)
  have BT := Lib.hid (fun k => bit_test hb k)
  have BG : Hid (∀ k, k < 64 → (bitS b)[k]? = some (b.testBit k)) := Lib.hid (fun k hk => bits_get hk)
  have FIN : Hid (∀ k, k = min m 64 → bitsL b m = numsTo (bitS b) k) := Lib.hid (fun k e => by rw [e]; rfl)
  obtain ⟨bi, hbi⟩ : ∃ z : Int, z = (b : Int) := ⟨_, rfl⟩
  rw [← hbi]
  have HBI := Lib.hid hbi
  clear hbi hb
  go_enter Tryd.func25, Tryd.ntmps25
  go_wp2_with fail
  go_loopw [5, 6] (fun u3 i wr => ∃ (k : Nat) (F : List Int), k ≤ m ∧ k ≤ 64 ∧ i = .int .i64 k ∧ Hid (F = numsTo (bitS b) k) ∧ Hid (wr.ownsRow w.heap.size 3 1 u3 F.length (NetI.numV F)) ∧ Hid (∀ x ∈ F, I64 x) ∧ Hid (Below w.heap.size w wr)) (fun _ i _ => 64 - (intOf i).toNat)
  case atStart => exact ⟨0, [], Nat.zero_le _, Nat.zero_le _, rfl, Lib.hid rfl, NS, Lib.hid (fun x hx => by cases hx), Lib.hid (Below.refl _ _)⟩
  case round =>
    obtain ⟨k, F, hkm, hk64, rfl, hF, hO, hI, hD⟩ := hrel
    obtain ⟨va, vc, rfl⟩ := form1 hO.out
    have hFl : F.length ≤ k := by have := nums_len (bitS b) k; rw [← hF.out] at this; exact this
    by_cases hlt : k < m
    · have j1 : (k : Int) < m := by omega
      have j1n : decide (k < m) = true := decide_eq_true hlt
      by_cases h64 : k < 64
      · have j2 : (k : Int) < 64 := by omega
        have j0 : (0 : Int) ≤ (k : Int) := by omega
        have hz3 := hD.out.size
        have BTk := BT.out k
        rw [← HBI.out] at BTk
        obtain ⟨tb, htb⟩ : ∃ tb, b.testBit k = tb := ⟨_, rfl⟩
        have HTB := Lib.hid htb
        rw [htb] at BTk
        clear htb
        cases tb
        · have F2 : Hid (F = numsTo (bitS b) (k + 1)) := Lib.hid (by rw [nums_no (by rw [BG.out k h64, HTB.out]; decide)]; exact hF.out)
          go_wp2_with fail
          go_roundw
          case rel => first | exact ⟨k + 1, F, by omega, by omega, by go_num, F2, hO, hI, hD⟩ | ((repeat (apply Exists.intro)); refine ⟨?_, rfl⟩; exact ⟨k + 1, F, by omega, by omega, by go_num, F2, hO, hI, hD⟩)
          case measure => simp [intOf]; omega
        · have F2 : Hid (F ++ [(k : Int)] = numsTo (bitS b) (k + 1)) := Lib.hid (by rw [nums_yes (by rw [BG.out k h64, HTB.out]), ← hF.out])
          have I2 : Hid (∀ y ∈ F ++ [(k : Int)], I64 y) := Lib.hid (fun y hy => by
            rcases List.mem_append.1 hy with hy | hy
            · exact hI.out y hy
            · rw [List.mem_singleton.1 hy]
              unfold I64
              omega)
          have AA1 : F.length + 1 ≤ maxLen := by unfold maxLen; omega
          have AA2 : (F.length + 1) * 8 ≤ 140737488355328 := by omega
          have AA3 : w.heap.size ≤ (wr.alloc (.cells #[.int .i64 (k : Int)] 3)).heap.size := by simp <;> omega
          go_wp2_with (at_builtin; go_must (refine wpList_append_lies _ rfl _ _ 29 rfl w.heap.size 3 i0 (.int .i64 0) 1 8 Tryd.underlying29 hi0 hi1 hi2 hi3 rfl (by decide) (.slice va F.length vc) F.length (NetI.numV F) rfl (hO.out.alloc _) ⟨wr.heap.size, 0, none⟩ 1 1 [.int .i64 k] rfl rfl (World.news_of_block (heap_alloc_new wr _)) (one_int k) (by decide) AA1 AA2 AA3 (wr.heap.size + 1) (by simp) ?_; intro g6 c6 w6 hown6 hgrow6 hat6 hlt6; have O6 : Hid (w6.ownsRow w.heap.size 3 1 (.slice (some ⟨g6, 0, none⟩) (F.length + 1) c6) (F ++ [(k : Int)]).length (NetI.numV (F ++ [(k : Int)]))) := Lib.hid (by rw [List.length_append, NetI.numv_app]; exact hown6); have D6 := Lib.hid ((hD.out.alloc hz3 (.cells #[.int .i64 k] 3)).grown hgrow6 (by simp <;> omega) (fun j hj => (hO.out.lt j hj).1)); clear hown6 hgrow6 hat6 hlt6))
          go_roundw
          case rel => first | exact ⟨k + 1, F ++ [(k : Int)], by omega, by omega, by go_num, F2, O6, I2, D6⟩ | ((repeat (apply Exists.intro)); refine ⟨?_, rfl⟩; exact ⟨k + 1, F ++ [(k : Int)], by omega, by omega, by go_num, F2, O6, I2, D6⟩)
          case measure => simp [intOf]; omega
      · have j2 : ¬ (k : Int) < 64 := by omega
        have R7 := Lib.hid (own_row hO.out hI.out)
        have FE : Hid (bitsL b m = F) := Lib.hid (by rw [FIN.out k (by omega), hF.out])
        go_wp2_with fail
        go_ret
        exact NlE.mk (by rw [FE.out]; exact R7.out) hD.out
    · have j1 : ¬ (k : Int) < m := by omega
      have j1n : decide (k < m) = false := decide_eq_false hlt
      have R7 := Lib.hid (own_row hO.out hI.out)
      have FE : Hid (bitsL b m = F) := Lib.hid (by rw [FIN.out k (by omega), hF.out])
      go_wp2_with fail
      go_ret
      exact NlE.mk (by rw [FE.out]; exact R7.out) hD.out
end NetBt
end Go.Proofs.YtedilgnnfmplgaaDoor
