/- The code's Compare: heads, lists. -/
import Derived.Test.YtihbnonbhelbmaaGreatDoorTermO
import Derived.Deep.RegionWith
namespace Go.Proofs.YtihbnonbhelbmaaGreatDoor
open Go Go.RowKit
namespace TermP
open LexM TermM TermI Kit TermN TermA TermB TermC TermD TermV TermO
theorem Gr.grow {w w' : World} (h : Gr w w') : ∃ q os, w' = Sort.grow (w.drewN q) os := by
  obtain ⟨p, hp⟩ := regrown_of_below h.1
  have hd := h.2
  refine ⟨p.d - w.drawn, p.os, ?_⟩
  have e : w'.drawn = p.d := by rw [hp]; rfl
  rw [hp]
  have : redrawn w p.d = w.drewN (p.d - w.drawn) := by
    unfold redrawn World.drewN
    congr 1
    omega
  rw [this]
set_option maxRecDepth 100000 in
set_option maxHeartbeats 3200000 in
theorem head_any (n : ByteArray) (p : Option Addr) (m c : Nat) (w : World) (hs : n.size ≤ 9223372036854775807) :
    Calls Tryz.prog 92 #[.agg #[.string n, .slice p m c]] w fun e w' => e = .returned (.agg #[.int .i64 (cls n (decide (m = 0))), .string n]) ∧ Gr w w' := by
  have K := Lib.hid (fun w => class_any n p m c w hs)
  generalize cls n (decide (m = 0)) = R at *
  go_enter Tryz.func92, Tryz.ntmps92
  go_wp2_with fail
  have HA : Hid (∀ w', Gr ((w.alloc (.cells #[.string n, .slice p m c] 27)).alloc (.cells #[.int .i64 0, .string ⟨#[]⟩] 100)) w' → Has w' w.heap.size #[.string n, .slice p m c] ∧ Has w' (w.heap.size + 1) #[.int .i64 0, .string ⟨#[]⟩]) := Lib.hid (fun w' h => ⟨h.has ((Has.new _ _ _).alloc _), h.has (Has.new1 _ _ _ _)⟩)
  go_region_with (first | (go_at_call 126; refine (K.out _).mono ?_; rintro e w' ⟨rfl, g⟩; have g' := Lib.hid ((Gr.drew _).trans g); clear g; obtain ⟨h1, h2⟩ := HA.out _ g'.out; obtain ⟨b0, b1, _, _, bl⟩ := h1.two; obtain ⟨b2, b3, f2, f3, bl2⟩ := h2.two; have h2' := Lib.hid h2; clear h1 h2))
  all_goals
    go_wp2_with fail
    have r0 := h2'.out.put0 (.int .i64 R) (.string n)
    have r1 := h2'.out.put1 (.int .i64 R) (.string n)
    have hG : Gr w ((w'.setCell ⟨w.heap.size + 1, 0, none⟩ (.int .i64 R)).setCell ⟨w.heap.size + 1, 1, none⟩ (.string n)) := ((((Gr.alloc w _).more _).trans g'.out).put (by simp) _).put (by simp) _
    have hG := Lib.hid hG
    refine bodyPost_ret (v := .agg #[.int .i64 R, .string n]) (by simp [results, Tryz.results92, go_sem, b2, b3]) rfl ?_
    exact ⟨rfl, hG.out⟩
def headF (a : Int) (n : ByteArray) (b : Int) (m : ByteArray) : Int := if a ≠ b then sg a b else if a = 0 then sg (numV n.data.toList) (numV m.data.toList) else lexB n.data.toList m.data.toList
theorem heads_any (a b : Int) (n m : ByteArray) (w : World) (hn : n.size ≤ 9223372036854775807) (hm : m.size ≤ 9223372036854775807) :
    Calls Tryz.prog 94 #[.agg #[.int .i64 a, .string n], .agg #[.int .i64 b, .string m]] w fun e w' => e = .returned (.int .i64 (headF a n b m)) ∧ Gr w w' := by
  have KI := Lib.hid (fun a b w => cmpI_any a b w)
  have KS := Lib.hid (fun w => cmpS_any n m w)
  have N1 := Lib.hid (fun w => num_any n w hn)
  have N2 := Lib.hid (fun w => num_any m w hm)
  have HF : Hid (headF a n b m = if a ≠ b then sg a b else if a = 0 then sg (numV n.data.toList) (numV m.data.toList) else lexB n.data.toList m.data.toList) := rfl
  generalize headF a n b m = R at *
  generalize isNum n.data.toList = x1 at *
  generalize isNum m.data.toList = x2 at *
  generalize numV n.data.toList = y1 at *
  generalize numV m.data.toList = y2 at *
  generalize lexB n.data.toList m.data.toList = L at *
  by_cases hab : a = b
  · subst hab
    by_cases h0 : a = 0
    · subst h0
      go_enter Tryz.func94, Tryz.ntmps94
      go_wp2_with fail
      refine (N1.out _).mono ?_
      rintro e w' ⟨rfl, rfl⟩
      go_wp2_with fail
      refine (N2.out _).mono ?_
      rintro e w' ⟨rfl, rfl⟩
      go_wp2_with fail
      refine (KI.out _ _ _).mono ?_
      rintro e w' ⟨rfl, rfl⟩
      go_wp2_with fail
      go_ret
      exact ⟨ret_int (by rw [HF.out]; simp), (Gr.alloc _ _).more _⟩
    · have h1 : (a == 0) = false := by simpa using h0
      go_enter Tryz.func94, Tryz.ntmps94
      go_wp2_with fail
      refine (KS.out _).mono ?_
      rintro e w' ⟨rfl, rfl⟩
      go_wp2_with fail
      go_ret
      exact ⟨ret_int (by rw [HF.out, if_neg (by simp), if_neg h0]), (Gr.alloc _ _).more _⟩
  · have h1 : (a != b) = true := by simpa using hab
    go_enter Tryz.func94, Tryz.ntmps94
    go_wp2_with fail
    refine (KI.out _ _ _).mono ?_
    rintro e w' ⟨rfl, rfl⟩
    go_wp2_with fail
    go_ret
    exact ⟨ret_int (by rw [HF.out, if_pos hab]), (Gr.alloc _ _).more _⟩
end TermP
end Go.Proofs.YtihbnonbhelbmaaGreatDoor
