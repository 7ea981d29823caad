/- The reference's Leaves. Condition: at most three million parts. -/
import Derived.Test.YtgfdplmilichiaaDoorTermLs
import Derived.Laws.OwnMore
import Derived.Deep.AppendLies
namespace Go.Proofs.YtgfdplmilichiaaDoor
open Go Go.RowKit
namespace TermLv
open LexM TermM TermI Kit TermN TermU TermL TermE TermF TermQ TermLs
theorem leavesT_ne (t : Tm) : 0 < (leavesT t).length := by
  induction t using Tm.ind with
  | h n l ih =>
    simp only [leavesT]
    cases l with
    | nil => simp
    | cons a r =>
      have := ih a (by simp)
      simp only [List.isEmpty_cons, leavesL]
      simp; omega
theorem strs_app (a b : List ByteArray) : strs (a ++ b) = strs a ++ strs b := by unfold strs; rw [List.map_append]
theorem strs_one (a : List ByteArray) : ∀ u ∈ strs a, u.oneCell' = true := by
  intro u hu
  unfold strs at hu
  obtain ⟨x, _, rfl⟩ := List.mem_map.1 hu
  rfl
def RLv (t : Tm) : Prop := ∀ (B : Nat) (w : World) (sv : Value), B ≤ w.heap.size → SlIn (· < B) w t.args sv → sizeT t ≤ 3000000 →
  Calls Tryd.prog 57 #[.agg #[.string t.nm, sv]] w (Vrs (leavesT t) w)
set_option maxRecDepth 100000 in
set_option maxHeartbeats 3200000 in
theorem rlv_any (t : Tm) : RLv t := by
  obtain ⟨i0, hi, hz0, hz1, hz2⟩ := info_parts Tryd.info9s
  induction t using Tm.ind with
  | h n l ih =>
    intro B w sv hB h hz
    dsimp only [Tm.args, Tm.nm] at h ⊢
    obtain ⟨p, c, rfl, _, hc, hm, hR⟩ := h.row
    unfold Vrs
    cases l with
    | nil =>
      have E0 : leavesT (.mk n []) = [n] := by simp [leavesT]
      rw [E0]
      clear E0 ih hR h
      dsimp only [List.length_nil]
      go_enter Tryd.func57, Tryd.ntmps57
      go_wp2_with fail
      go_ret
      refine ⟨_, w.heap.size + 1, rfl, ?_, by omega, (below_alloc w _).alloc (by simp) _⟩
      have hh := World.ownsRow_lit (e := 9) (size := 1) (base := w.heap.size + 1) (w.alloc (.cells #[.string n, .slice p 0 c] 28)) #[.string n] 1 (by simp) (by unfold maxLen; omega) rfl
      rw [World.size_alloc] at hh
      exact hh
    | cons a r =>
      have hl0 : 0 < (a :: r).length := by simp
      have E0 : leavesT (.mk n (a :: r)) = leavesL (a :: r) := by simp [leavesT]
      have hz' : sizeL (a :: r) ≤ 3000000 := by simp only [sizeT] at hz; omega
      rw [E0]
      clear E0 hz
      generalize (a :: r) = l at *
      have hlf : l.length ≤ 3000000 := by have := len_size l; omega
      have HR := Lib.hid hR
      have HB := Lib.hid hB
      have NX : Hid (∀ k t, l[k]? = some t → leavesL (l.take (k + 1)) = leavesL (l.take k) ++ leavesT t) := Lib.hid (fun k t h => leaves_next l k t h)
      have LN : Hid (∀ k, (leavesL (l.take k)).length ≤ 3000000) := Lib.hid (fun k => by
        have h1 := leavesL_len (l.take k)
        have h2 := sizeL_take l k
        omega)
      have IH : Hid (∀ k t, l[k]? = some t → ∀ (w' : World) (sv : Value), B ≤ w'.heap.size → SlIn (· < B) w' t.args sv →
          Calls Tryd.prog 57 #[.agg #[.string t.nm, sv]] w' (Vrs (leavesT t) w')) := Lib.hid (fun k t hk w' sv hb hs => by
        refine ih t (List.mem_of_getElem? hk) B w' sv hb hs ?_
        have e := size_next l k t hk
        have h1 := sizeL_take l (k + 1)
        omega)
      have NE := Lib.hid (fun t => leavesT_ne t)
      have FL : Hid (leavesL (l.take l.length) = leavesL l) := Lib.hid (by simp)
      have X0 : Hid (leavesL (l.take 0) = []) := Lib.hid (by simp [leavesL])
      generalize hlm : l.length = m at *
      have HM := Lib.hid hlm
      have hnz : ((m : Int) == 0) = false := by simp; omega
      obtain ⟨W1, hW1⟩ : ∃ W1, W1 = w.alloc (.cells #[.string n, .slice p m c] 28) := ⟨_, rfl⟩
      have G0 : Hid (Below w.heap.size w W1) := Lib.hid (by rw [hW1]; exact below_alloc w _)
      have ZW : Hid (W1.heap.size = w.heap.size + 1) := Lib.hid (by rw [hW1]; simp)
      have H1 : Hid (Has W1 w.heap.size #[.string n, .slice p m c]) := Lib.hid (by rw [hW1]; exact Has.new _ _ _)
      clear ih hR h hlm hB hz' hc hm
      go_enter Tryd.func57, Tryd.ntmps57
      go_upto_region 1 with fail
      rw [← hW1]
      obtain ⟨y1, y2, _⟩ := H1.out.two
      clear hW1
      go_wp2_with fail
      go_loopw [3, 15] (fun v i wr => ∃ k : Nat, k ≤ m ∧ i = .int .i64 k ∧ Hid (wr.ownsRow W1.heap.size 9 1 v (leavesL (l.take k)).length (strs (leavesL (l.take k)))) ∧ Hid (Below W1.heap.size W1 wr)) (fun _ i _ => m - (intOf i).toNat)
      case atStart => exact ⟨0, Nat.zero_le _, rfl, by rw [X0.out]; exact Lib.hid ⟨rfl, Or.inl ⟨rfl, rfl⟩⟩, Lib.hid (Below.refl _ _)⟩
      case round =>
        obtain ⟨k, hk, rfl, hO, hD⟩ := hrel
        have hln := LN.out k
        have DW := Lib.hid (G0.out.trans (hD.out.mono G0.out.size))
        obtain ⟨x1, x2, _⟩ := (H1.out.step0 hD.out).two
        by_cases hlt : k < m
        · obtain ⟨t, b, o, q, d, ht, rfl, hb, c1, c2, hs, hts⟩ := (Row.deep HR.out DW.out HB.out) k (by rw [HM.out]; exact hlt)
          have NW := Lib.hid (NX.out k t ht)
          have hln2 := LN.out (k + 1)
          have hne := NE.out t
          have IT := Lib.hid (IH.out k t ht wr _ (Nat.le_trans HB.out DW.out.size) hs)
          have hsz := hD.out.size
          clear ht hs hts
          rw [NW.out, List.length_append] at hln2
          generalize leavesL (l.take k) = ys at *
          generalize leavesT t = zs at *
          generalize t.nm = tn at *
          generalize t.args.length = ta at *
          go_wp2_with fail
          refine IT.out.mono ?_
          rintro e w2 ⟨v2, base2, rfl, ho2, hb2, hd2⟩
          have O1 := Lib.hid (own_below hO.out hd2)
          have D1 := Lib.hid (hD.out.trans (hd2.mono hsz))
          have hsz2 := hd2.size
          obtain ⟨g2, cap2, rfl⟩ : ∃ g cap, v2 = .slice (some ⟨g, 0, none⟩) zs.length cap := by
            rcases ho2.2 with ⟨_, e⟩ | ⟨g, cap, cur, e1, _⟩
            · omega
            · exact ⟨g, cap, e1⟩
          have NWS := ho2.cells (g := g2) rfl
          have A1 : ys.length + zs.length ≤ maxLen := by unfold maxLen; omega
          have A2 : (ys.length + zs.length) * 16 ≤ 140737488355328 := by omega
          have A3 : W1.heap.size ≤ w2.heap.size := by omega
          have A4 : (strs zs).length = zs.length * 1 := by rw [strs_len]; omega
          clear ho2 hd2 IT
          go_wp2_with (at_builtin; refine wpList_append_own _ rfl _ _ 35 rfl W1.heap.size 9 i0 (.string ⟨#[]⟩) 1 16 Tryd.underlying35 hi hz0 hz1 hz2 rfl (by decide) _ ys.length (strs ys) rfl O1.out ⟨g2, 0, none⟩ zs.length cap2 (strs zs) rfl A4 NWS (strs_one zs) A1 A2 A3 ?_; intro v1 w1 hown1 hgrow1 _)
          have O2 : Hid (w1.ownsRow W1.heap.size 9 1 v1 (leavesL (l.take (k + 1))).length (strs (leavesL (l.take (k + 1))))) := Lib.hid (by
            rw [NW.out, List.length_append, strs_app]
            exact hown1)
          have D2 := Lib.hid (D1.out.grown hgrow1 A3 (fun k hk => (O1.out.lt k hk).1))
          clear hown1 hgrow1
          go_wp2_with fail
          go_roundw
          case rel => exact ⟨k + 1, by omega, by go_num, O2, D2⟩
          case measure => simp [intOf]; omega
        · obtain rfl : k = m := by omega
          have hO2 := hO.out
          rw [FL.out] at hO2
          have hO3 := Lib.hid hO2
          clear hO2 hln
          go_wp2_with fail
          go_ret
          exact ⟨_, _, rfl, hO3.out, G0.out.size, DW.out⟩
end TermLv
end Go.Proofs.YtgfdplmilichiaaDoor
