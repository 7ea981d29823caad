/- clone: a copy of a term whose lists are all new. Condition: at most a million parts. -/
import Derived.Test.YtgfdplmilichiaaDoorTermU
namespace Go.Proofs.YtgfdplmilichiaaDoor
open Go Go.RowKit
namespace TermX
open LexM TermM TermI Kit TermN TermU
/-- What clone leaves: the term again, its lists in new blocks. -/
def Cloned (n : ByteArray) (l : List Tm) (w : World) (e : Ending) (w' : World) : Prop :=
  ∃ (p : Option Addr) (c : Nat), e = .returned (.agg #[.string n, .slice p l.length c]) ∧ SlIn (fun b => w.heap.size ≤ b ∧ b < w'.heap.size) w' l (.slice p l.length c) ∧ Below w.heap.size w w'
theorem Has.grown {w w' : World} {g : Nat} {cs : Array Value} {row : Option Nat} (h : Has w g cs) (hg : w.grownBy w' row) (hne : row ≠ some g) : Has w' g cs := by
  have hl := h.lt
  obtain ⟨t, h⟩ := h
  exact ⟨t, (hg.block g hl (fun e => hne e.symm)).trans h⟩
set_option maxRecDepth 100000 in
set_option maxHeartbeats 3200000 in
theorem clone_any (t : Tm) : ∀ (B : Nat) (w : World) (sv : Value), B ≤ w.heap.size → SlIn (· < B) w t.args sv → sizeT t ≤ 1000000 →
    Calls Tryd.prog 71 #[.agg #[.string t.nm, sv]] w (Cloned t.nm t.args w) := by
  obtain ⟨i0, hi, hz0, hz1, hz2⟩ := info_parts Tryd.info28
  induction t using Tm.ind with
  | h n l ih =>
    intro B w sv hB h hz
    dsimp only [Tm.args, Tm.nm] at h ⊢
    obtain ⟨p, c, rfl, hn, hc, hm, hR⟩ := h.row
    have hls := len_size l
    simp only [sizeT] at hz
    have IH : Hid (∀ t ∈ l, ∀ (w : World) (v : Value), B ≤ w.heap.size → SlIn (· < B) w t.args v → sizeT t ≤ 1000000 → Calls Tryd.prog 71 #[.agg #[.string t.nm, v]] w (Cloned t.nm t.args w)) :=
      Lib.hid (fun t hk w v hB h hz => ih t hk B w v hB h hz)
    have NX : Hid (∀ k t, l[k]? = some t → sizeT t ≤ 1000000) := Lib.hid (fun k t h => by have := size_get h; omega)
    have TK : Hid (∀ k t, l[k]? = some t → l.take (k + 1) = l.take k ++ [t]) := Lib.hid (fun k t h => take_get l k t h)
    have HB := Lib.hid hB
    have HR := Lib.hid hR
    have hlb : l.length ≤ 1000000 := by omega
    generalize hm' : l.length = m at *
    have HM := Lib.hid hm'
    unfold Cloned
    rw [hm']
    clear ih hR h hm' hn hls hz
    go_enter Tryd.func71, Tryd.ntmps71
    go_wp2_with fail
    go_loopw [12] (fun i wr => ∃ (k : Nat) (L : List (Tm × Value)) (v : Value), k ≤ m ∧ i = .int .i64 k ∧ Hid (L.map (·.1) = l.take k) ∧ Hid (Own (w.heap.size + 1 + 1 + 1) wr L v) ∧ Hid (Has wr (w.heap.size + 1 + 1) #[.string n, v]) ∧ Hid (Has wr (w.heap.size + 1) #[.string ⟨#[]⟩, .slice none 0 0]) ∧ Hid (Below w.heap.size w wr)) (fun i _ => m - (intOf i).toNat)
    case atStart => exact ⟨0, [], _, Nat.zero_le _, rfl, Lib.hid rfl, Lib.hid (Own.nil _ _), Lib.hid (Has.new2 _ _ _ _ _), Lib.hid ((Has.new1 _ _ _ _).alloc _), Lib.hid ((((Below.refl _ _).alloc (Nat.le_refl _) _).alloc (by simp) _).alloc (by simp; omega) _)⟩
    case round =>
      obtain ⟨k, L, v, hk, rfl, hL, hO, hC, hE, hD⟩ := hrel
      by_cases hlt : k < m
      · obtain ⟨t, b, o, q, d, ht, rfl, hb, c1, c2, hs, hts⟩ := (Row.deep HR.out hD.out HB.out) k (by rw [HM.out]; exact hlt)
        obtain ⟨x1, x2, x3, x4, hbl⟩ := hC.out.two
        have hLl : L.length = k := by
          have := congrArg List.length hL.out
          rw [List.length_map, List.length_take, HM.out] at this
          omega
        have HLl := Lib.hid hLl
        have hLl2 : L.length ≤ 1000000 := by omega
        have TT := Lib.hid (TK.out k t ht)
        have HS := Lib.hid hs
        have HTS := Lib.hid hts
        have IT := Lib.hid (fun w' (g : Below wr.heap.size wr w') => IH.out t (List.mem_of_getElem? ht) w' _ (Nat.le_trans HB.out (Nat.le_trans hD.out.size g.size)) (hs.deep g (Nat.le_trans HB.out hD.out.size)) (NX.out k t ht))
        have hv := Lib.hid hO.out.1.lt
        have A1 : L.length + 1 ≤ maxLen := by unfold maxLen; omega
        have A2 : (L.length + 1) * 40 ≤ 140737488355328 := by omega
        clear hs hts ht hLl
        go_wp2_with fail
        go_region_law (first
          | (refine step_append_lies _ rfl _ _ 26 rfl (w.heap.size + 1 + 1 + 1) 28 i0 (.agg #[.string ⟨#[]⟩, .slice none 0 0]) 2 40 Tryd.underlying26 hi hz0 hz1 hz2 rfl (by decide) v L.length (flatL L) rfl (O2.out.1.alloc _) ⟨w2.heap.size, 0, none⟩ 1 1 [.string t.nm, .slice q1 t.args.length c1'] rfl rfl (news2 _ _ _ _) (one2 _ _ _ _) (by decide) A1 A2 A3 (w2.heap.size + 1) (by simp) ?_; intro g cap w3 hown hgrow hat hlt3; have O3 := Lib.hid (O2.out.add S2.out HTS.out hbl (fun k hk => (hv.out k hk).2) hown hgrow hat); have nv1 : v.ownBlock ≠ some (w.heap.size + 1 + 1) := (fun e => absurd (hv.out _ e).1 (by omega)); have nv2 : v.ownBlock ≠ some (w.heap.size + 1) := (fun e => absurd (hv.out _ e).1 (by omega)); have C3 := Lib.hid (Has.grown (C2.out.alloc _) hgrow nv1); have E3 := Lib.hid (Has.grown (E2.out.alloc _) hgrow nv2); have D3 := Lib.hid ((D2.out.alloc (by exact D2.out.size) _).grown hgrow (by have := D2.out.size; simp; omega) (fun k hk => by have := (hv.out k hk).1; omega)); clear hown hgrow hat; obtain ⟨u1, u2, u3, u4, u5⟩ := C3.out.two)
          | (go_simp; go_at_call 71; refine (IT.out _ (by first | exact (below_alloc wr _).drew | exact below_drewN (below_alloc wr _) _)).mono ?_; rintro e w2 ⟨q1, c1', rfl, s2, b2⟩; have G2 : Below wr.heap.size wr w2 := (((below_alloc wr _).drew).trans (b2.mono (by simp))); have S2 := Lib.hid (s2.weaken (fun b hb => (⟨Nat.le_trans (by simp) hb.1, hb.2⟩ : wr.heap.size ≤ b ∧ b < w2.heap.size))); have D2 := Lib.hid (hD.out.trans (G2.mono hD.out.size)); have O2 := Lib.hid (hO.out.below G2); have C2 := Lib.hid (hC.out.step0 G2); have E2 := Lib.hid (hE.out.step0 G2); have A3 : w.heap.size + 1 + 1 + 1 ≤ (w2.alloc (.cells #[.string t.nm, .slice q1 t.args.length c1'] 28)).heap.size := (by have := C2.out.lt; simp; omega); clear s2 b2 G2; obtain ⟨y1, y2, y3, y4, y5⟩ := C2.out.two))
        all_goals
          go_wp2_with fail
          go_roundw
          case rel => exact ⟨k + 1, L ++ [(t, .slice q1 t.args.length c1')], _, by omega, by go_num, Lib.hid (by rw [List.map_append, hL.out, TT.out]; rfl), Lib.hid (O3.out.far (by simp) _), Lib.hid (C3.out.set 1 _), Lib.hid (E3.out.far (by simp) _), Lib.hid (D3.out.setCell (by simp; omega) _)⟩
          case measure => simp [intOf]; omega
      · obtain rfl : k = m := by omega
        obtain ⟨a, c', rfl⟩ := hO.out.form
        have hLl : L.length = k := by
          have := congrArg List.length hL.out
          rw [List.length_map, List.length_take, HM.out] at this
          omega
        have HL : Hid (L.map (·.1) = l) := Lib.hid (by rw [hL.out, ← HM.out]; simp)
        rw [hLl] at hO hC
        obtain ⟨x1, x2, _, _, x5⟩ := hC.out.two
        obtain ⟨y1, y2, y3, y4, y5⟩ := hE.out.two
        have r0 := hE.out
        have O4 := Lib.hid (((hO.out.far (p := ⟨w.heap.size + 1, 0, none⟩) (by simp) (.string n)).far (p := ⟨w.heap.size + 1, 1, none⟩) (by simp) (.slice a k c')))
        have D4 := Lib.hid ((hD.out.setCell (p := ⟨w.heap.size + 1, 0, none⟩) (by simp) (.string n)).setCell (p := ⟨w.heap.size + 1, 1, none⟩) (by simp) (.slice a k c'))
        have r1 := hE.out.put0 (.string n) (.slice a k c')
        have r2 := hE.out.put1 (.string n) (.slice a k c')
        clear r0 hLl
        go_wp2_with fail
        refine bodyPost_ret (v := .agg #[.string n, .slice a k c']) (by simp [results, Tryd.results71, go_sem, y1, y2]) rfl ?_
        refine ⟨a, c', rfl, ?_, D4.out⟩
        rw [← HL.out]
        exact O4.out.slin.weaken (fun b hb => ⟨by omega, hb.2⟩)
end TermX
end Go.Proofs.YtgfdplmilichiaaDoor
