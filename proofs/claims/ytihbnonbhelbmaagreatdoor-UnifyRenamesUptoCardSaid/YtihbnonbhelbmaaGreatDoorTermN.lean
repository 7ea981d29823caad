/- Depth and Size of terms, of the code and of the reference. Condition: at most a million parts. -/
import Derived.Test.YtihbnonbhelbmaaGreatDoorTermI
namespace Go.Proofs.YtihbnonbhelbmaaGreatDoor
open Go Go.RowKit
namespace TermN
open LexM TermM TermI Kit
theorem depthT_le (t : Tm) : depthT t ≤ sizeT t := by
  induction t using Tm.ind with
  | h n l ih =>
    have : depthL l ≤ sizeL l := by
      induction l with
      | nil => simp [depthL]
      | cons a l ihl =>
        have h1 := ih a (by simp)
        have h2 := ihl (fun x hx => ih x (by simp [hx]))
        simp only [depthL, sizeL]
        omega
    simp only [depthT, sizeT]
    omega
theorem sizeT_pos : ∀ t : Tm, 1 ≤ sizeT t
  | .mk n l => by simp only [sizeT]; omega
theorem size_get {l : List Tm} {k : Nat} {t : Tm} (h : l[k]? = some t) : sizeT t ≤ sizeL l := by
  induction l generalizing k with
  | nil => simp at h
  | cons a l ih =>
    simp only [sizeL]
    cases k with
    | zero => simp at h; subst h; omega
    | succ k => have := ih (k := k) (by simpa using h); omega
theorem depthL_take (l : List Tm) (k : Nat) : depthL (l.take k) ≤ depthL l := by
  induction l generalizing k with
  | nil => simp
  | cons a l ih =>
    cases k with
    | zero => simp [depthL]
    | succ k => have := ih k; simp only [List.take_succ_cons, depthL]; omega
theorem sizeL_take (l : List Tm) (k : Nat) : sizeL (l.take k) ≤ sizeL l := by
  induction l generalizing k with
  | nil => simp
  | cons a l ih =>
    cases k with
    | zero => simp [sizeL]
    | succ k => have := ih k; simp only [List.take_succ_cons, sizeL]; omega
theorem len_size (l : List Tm) : l.length ≤ sizeL l := by
  induction l with
  | nil => simp
  | cons a l ih => have := sizeT_pos a; simp only [List.length_cons, sizeL]; omega
theorem depth_next (l : List Tm) (k : Nat) (t : Tm) (h : l[k]? = some t) : depthL (l.take (k + 1)) = max (depthL (l.take k)) (depthT t) := by
  rw [take_get l k t h, depthL_app]; simp [depthL]
theorem size_next (l : List Tm) (k : Nat) (t : Tm) (h : l[k]? = some t) : sizeL (l.take (k + 1)) = sizeL (l.take k) + sizeT t := by
  rw [take_get l k t h, sizeL_app]; simp [sizeL]
set_option maxRecDepth 100000 in
set_option maxHeartbeats 1600000 in
theorem rdepth_any (t : Tm) : ∀ (B : Nat) (w : World) (sv : Value), B ≤ w.heap.size → SlIn (· < B) w t.args sv → sizeT t ≤ 1000000 →
    Calls Tryz.prog 124 #[.agg #[.string t.nm, sv]] w fun e w' => e = .returned (.int .i64 (depthT t)) ∧ Gr w w' := by
  induction t using Tm.ind with
  | h n l ih =>
    intro B w sv hB h hz
    dsimp only [Tm.args, Tm.nm] at h ⊢
    obtain ⟨p, c, rfl, hn, hc, hm, hR⟩ := h.row
    have hls := len_size l
    have hdl := Nat.le_trans (depthT_le (.mk n l)) hz
    simp only [sizeT] at hz
    simp only [depthT] at hdl
    simp only [depthT]
    have IH : Hid (∀ t ∈ l, ∀ (w : World) (v : Value), B ≤ w.heap.size → SlIn (· < B) w t.args v → sizeT t ≤ 1000000 → Calls Tryz.prog 124 #[.agg #[.string t.nm, v]] w fun e w' => e = .returned (.int .i64 (depthT t)) ∧ Gr w w') :=
      Lib.hid (fun t hk w v hB h hz => ih t hk B w v hB h hz)
    have NX : Hid (∀ k t, l[k]? = some t → depthL (l.take (k + 1)) = max (depthL (l.take k)) (depthT t) ∧ sizeT t ≤ 1000000 ∧ depthT t ≤ 1000000) := Lib.hid (fun k t h => by
      have := size_get h
      have := depthT_le t
      exact ⟨by exact depth_next _ _ _ h, by omega, by omega⟩)
    have GT : Hid (∀ k, depthL (l.take k) ≤ 1000000) := Lib.hid (fun k => by have := depthL_take l k; omega)
    have FL : Hid (depthL (l.take l.length) = depthL l) := Lib.hid (by simp)
    have HB := Lib.hid hB
    have HR := Lib.hid hR
    generalize hm' : l.length = m at *
    have HM := Lib.hid hm'
    clear ih hR h hm' hn hdl
    go_enter Tryz.func124, Tryz.ntmps124
    go_wp2_with fail
    go_loopw [3, 8] (fun d i wr => ∃ k : Nat, k ≤ m ∧ i = .int .i64 k ∧ d = .int .i64 (depthL (l.take k)) ∧ Hid (Gr (w.alloc (.cells #[.string n, .slice p m c] 27)) wr)) (fun _ i _ => m - (intOf i).toNat)
    case atStart => exact ⟨0, Nat.zero_le _, rfl, rfl, Lib.hid (Gr.refl _)⟩
    case round =>
      obtain ⟨k, hk, rfl, rfl, hg⟩ := hrel
      have hd := GT.out k
      by_cases hlt : k < m
      · obtain ⟨t, b, o, q, d, ht, rfl, hb, c1, c2, hs, hts⟩ := (HR.out.gr ((Gr.alloc _ _).trans hg.out) HB.out) k (by rw [HM.out]; exact hlt)
        obtain ⟨b0, b1, _, _, hbl⟩ := (hg.out.has (Has.new w _ _)).two
        obtain ⟨n1, n2, n3⟩ := NX.out k t ht
        have HD := Lib.hid n1
        have HT := Lib.hid ht
        have HS := Lib.hid hs
        have IT := Lib.hid (IH.out t (List.mem_of_getElem? ht))
        clear n1 ht hs
        go_wp2_with fail
        refine (IT.out _ _ (Nat.le_trans HB.out ((Gr.alloc _ _).trans (hg.out.trans (Gr.refl _))).size) (HS.out.gr (Gr.refl _) (Nat.le_trans HB.out ((Gr.alloc _ _).trans hg.out).size)) (by omega)).mono ?_
        rintro e w' ⟨rfl, g2⟩
        have hg2 := Lib.hid ((hg.out.trans (Gr.refl _)).trans g2)
        clear g2
        go_wp2_with fail
        go_roundw
        case rel => exact ⟨k + 1, by omega, by go_num, by rw [HD.out]; first | rfl | (congr 1; omega), hg2⟩
        case measure => simp [intOf]; omega
      · obtain rfl : k = m := by omega
        have HF := Lib.hid FL.out
        go_wp2_with fail
        go_ret
        exact ⟨ret_int (by rw [HF.out]; omega), (Gr.alloc _ _).trans hg.out⟩
end TermN
end Go.Proofs.YtihbnonbhelbmaaGreatDoor
