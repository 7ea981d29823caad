/- varsOf of the code: a rule's variables, ascending, each once. Conditions: at most a thousand literals; the terms have at most a million parts in all. -/
import Derived.Test.YtikkaiiinkeobaaGreatDoorNosQ
import Derived.Test.YtikkaiiinkeobaaGreatDoorGAJ
import Derived.Test.YtikkaiiinkeobaaGreatDoorGAE
import Derived.Test.YtikkaiiinkeobaaGreatDoorGAQ
import Derived.Laws.AppendOwnNone
import Derived.Laws.OwnMore
import Derived.Deep.RegionHeld3
namespace Go.Proofs.YtikkaiiinkeobaaGreatDoor
open Go Go.RowKit
namespace NosD
open LexM TermM TermI Kit TermN TermU TermL TermE TermF UniM UniK UniA UnpP NosS NosQ NorM
/-- How many parts a rule has. -/
def szR (h : Tm) (l : List Lt) : Nat := sizeT h + (l.map fun x => sizeT x.2).sum
theorem sum_mem : ∀ (l : List Lt) (x : Lt), x ∈ l → sizeT x.2 ≤ (l.map fun x => sizeT x.2).sum
  | [], x, h => by simp at h
  | y :: l, x, h => by
    simp only [List.map_cons, List.sum_cons]
    rcases List.mem_cons.1 h with rfl | h
    · omega
    · have := sum_mem l x h
      omega
theorem szr_mem {h : Tm} {l : List Lt} {x : Lt} (hx : x ∈ l) : sizeT x.2 ≤ szR h l := by
  unfold szR
  have := sum_mem l x hx
  omega
theorem cat_len (h : Tm) : ∀ (l : List Lt), (vsCat h l).length ≤ szR h l
  | [] => by
    unfold vsCat szR
    have h1 := varsOf_len (leavesL [h])
    have h2 := leaves_len h
    simp [leavesL] at h1 ⊢
    omega
  | x :: l => by
    have ih := cat_len h l
    unfold vsCat szR at ih ⊢
    have h1 := varsOf_len (leavesL [x.2])
    have h2 := leaves_len x.2
    simp [leavesL] at h1 ih ⊢
    omega
theorem szr_take (h : Tm) : ∀ (l : List Lt) (k : Nat), szR h (l.take k) ≤ szR h l
  | [], k => by simp
  | x :: l, 0 => by unfold szR; simp
  | x :: l, k + 1 => by
    have ih := szr_take h l k
    unfold szR at ih ⊢
    simp at ih ⊢
    omega
theorem strs_app (a b : List ByteArray) : strs (a ++ b) = strs a ++ strs b := by unfold strs; rw [List.map_append]
theorem strs_one (a : List ByteArray) : ∀ u ∈ strs a, u.oneCell' = true := by
  intro u hu
  unfold strs at hu
  obtain ⟨x, _, rfl⟩ := List.mem_map.1 hu
  rfl
/-- Vars at a list of one term in a block of its own. -/
theorem vars_one (t : Tm) (B : Nat) (w : World) (g : Nat) (q : Option Addr) (d : Nat) (hB : B ≤ w.heap.size) (hg : Has w g #[.string t.nm, .slice q t.args.length d]) (h : SlIn (· < B) w t.args (.slice q t.args.length d)) (hn : t.nm.size ≤ maxLen) (hz : sizeT t ≤ 1000000) :
    Calls Tryz.prog 66 #[.slice (some ⟨g, 0, none⟩) 1 1] w (Vrs (varsOf (leavesL [t])) w) := by
  refine vars_any [t] w.heap.size w _ (Nat.le_refl _) ?_ (by simp [sizeL]; omega)
  exact TermH.slin_of (B := B) (B' := w.heap.size) (cap := 1) (L := [(t, .slice q t.args.length d)]) hg.lt hB (Nat.le_refl _) (by unfold maxLen; simp) hg (fun x hx => by
    obtain rfl := List.mem_singleton.1 hx
    exact ⟨h, hn⟩)
theorem str_base {base base' : Nat} {w : World} {p : Option Addr} {l : List ByteArray} (h : StrR base w p l) (hb : base' ≤ base) : StrR base' w p l := fun k x hx => by
  obtain ⟨g, e, h1, h2, h3⟩ := h k x hx
  exact ⟨g, e, Nat.le_trans hb h1, h2, h3⟩
set_option maxRecDepth 100000 in
set_option maxHeartbeats 3200000 in
theorem varsof_any (h : Tm) (l : List Lt) (n : Nat) (hln : l.length = n) (hn1 : n ≤ 1000) (hz : szR h l ≤ 1000000) (B : Nat) (w : World) (sa sl : Value) (hB : B ≤ w.heap.size) (ha : SlIn (· < B) w h.args sa) (hnm : h.nm.size ≤ maxLen) (hl : LIn (· < B) w l sl) :
    Calls Tryz.prog 33 #[.agg #[.string h.nm, sa, sl]] w fun e w' => ∃ (p : Option Addr) (c : Nat), e = .returned (.slice p (VsR (h, l)).length c) ∧ StrR w.heap.size w' p (VsR (h, l)) ∧ Below w.heap.size w w' := by
  obtain ⟨i0, hi, hz0, hz1, hz2⟩ := info_parts Tryz.info9s
  obtain ⟨pa, ca, rfl⟩ := ha.form
  obtain ⟨pl, cl, rfl⟩ := hl.form
  obtain ⟨W1, hW1⟩ : ∃ W1, W1 = w.alloc (.cells #[.string h.nm, .slice pa h.args.length ca, .slice pl l.length cl] 27) := ⟨_, rfl⟩
  have J1 : Hid (Below w.heap.size w W1) := Lib.hid (by rw [hW1]; exact below_alloc _ _)
  have H1 : Hid (Has W1 w.heap.size #[.string h.nm, .slice pa h.args.length ca, .slice pl l.length cl]) := Lib.hid (by rw [hW1]; exact Has.new _ _ _)
  have hs1 : w.heap.size ≤ W1.heap.size := J1.out.size
  have hB1 : B ≤ W1.heap.size := Nat.le_trans hB hs1
  have zh : sizeT h ≤ 1000000 := by unfold szR at hz; omega
  have VH := Lib.hid (vars_one h B (W1.alloc (.cells #[.string h.nm, .slice pa h.args.length ca] 24)) W1.heap.size pa ca (by simp; omega) (Has.new _ _ _) ((ha.deep J1.out hB).gr (Gr.alloc _ _) hB1) hnm zh)
  have LL := Lib.hid (fun w' (k : Below W1.heap.size W1 w') => (hl.keep (w' := w') fun b o hb => ((J1.out.trans (k.mono hs1)).cell (p := ⟨b, o, none⟩) (Nat.lt_of_lt_of_le hb hB))))
  have VX := Lib.hid (fun (x : Lt) (hx : x ∈ l) (q : Option Addr) (d : Nat) (w' : World) (g : Nat) (hb : B ≤ w'.heap.size) (hg : Has w' g #[.string x.2.nm, .slice q x.2.args.length d]) (hs : SlIn (· < B) w' x.2.args (.slice q x.2.args.length d)) (hnx : x.2.nm.size ≤ maxLen) => vars_one x.2 B w' g q d hb hg hs hnx (Nat.le_trans (szr_mem (h := h) hx) hz))
  have NX := Lib.hid (fun k x (hx : l[k]? = some x) => vscat_next h l k x hx)
  have N0 : Hid (vsCat h (l.take 0) = varsOf (leavesL [h])) := Lib.hid (by simp [vsCat])
  have NE : Hid (vsCat h (l.take n) = vsCat h l) := Lib.hid (by rw [← hln, List.take_length])
  have NL : Hid (∀ k, (vsCat h (l.take k)).length ≤ 1000000) := Lib.hid (fun k => Nat.le_trans (cat_len h _) (Nat.le_trans (szr_take h l k) hz))
  have CS := Lib.hid (fun base w' v h' => sortc base w' v (vsCat h l) h' (Nat.le_trans (cat_len h l) hz))
  have CP := Lib.hid (fun base w' v h' => compact_any base w' v (sortB (vsCat h l)) h' (by rw [sortB_len]; exact Nat.le_trans (cat_len h l) hz))
  rw [show compactB (sortB (vsCat h l)) = VsR (h, l) from rfl, sortB_len] at CP
  have HLN := Lib.hid hln
  rw [hln] at hW1 H1 LL ⊢
  clear ha hl hnm hz zh hln
  generalize VsR (h, l) = V at *
  generalize sortB (vsCat h l) = SB at *
  generalize h.nm = hn at *
  generalize h.args.length = ah at *
  obtain ⟨y1, y2, y3⟩ := three H1.out
  go_enter Tryz.func33, Tryz.ntmps33
  go_upto_region 1 with fail
  rw [← hW1]
  clear hW1
  go_wp2_with fail
  refine VH.out.mono ?_
  rintro e w2 ⟨v2, base2, rfl, ho2, hb2, hd2⟩
  have D2 : Hid (Below W1.heap.size W1 w2) := Lib.hid (next1 (Below.refl _ _) hd2)
  have O2 : Hid (w2.ownsRow W1.heap.size 9 1 v2 (vsCat h (l.take 0)).length (strs (vsCat h (l.take 0)))) := Lib.hid (by rw [N0.out]; exact own_mono ho2 (by have := hb2; simp at this; omega))
  obtain ⟨va, vc, rfl⟩ := row_form O2.out
  obtain ⟨x1, x2, x3⟩ := three (H1.out.step0 D2.out)
  clear ho2 hb2 hd2 VH y1 y2 y3
  go_wp2_with fail
  go_loopw [3, 13] (fun v i wr => ∃ k : Nat, k ≤ n ∧ i = .int .i64 k ∧ Hid (wr.ownsRow W1.heap.size 9 1 v (vsCat h (l.take k)).length (strs (vsCat h (l.take k)))) ∧ Hid (Below W1.heap.size W1 wr)) (fun _ i _ => n - (intOf i).toNat)
  case atStart => exact ⟨0, Nat.zero_le _, rfl, O2, D2⟩
  case round =>
    clear O2 D2 x1 x2 x3
    obtain ⟨k, hk, rfl, hO, hD⟩ := hrel
    have hln0 := NL.out k
    obtain ⟨va, vc, rfl⟩ := row_form hO.out
    by_cases hlt : k < n
    · obtain ⟨x, g, o, q, d, hx, rfl, hg, c1, c2, c3, hs, hnx⟩ := LigU.lin_row (LL.out wr hD.out) k (by rw [HLN.out]; exact hlt)
      have NW := Lib.hid (NX.out k x hx)
      have hln2 := NL.out (k + 1)
      have VC := Lib.hid (fun w' g2 hb hg2 hs2 => VX.out x (List.mem_of_getElem? hx) q d w' g2 hb hg2 hs2 hnx)
      obtain ⟨W5, hW5⟩ : ∃ z, z = wr.alloc (.cells #[.bool x.1, .string x.2.nm, .slice q x.2.args.length d] 47) := ⟨_, rfl⟩
      have J5 : Hid (Below wr.heap.size wr W5) := Lib.hid (by rw [hW5]; exact below_alloc _ _)
      have H5 : Hid (Has W5 wr.heap.size #[.bool x.1, .string x.2.nm, .slice q x.2.args.length d]) := Lib.hid (by rw [hW5]; exact Has.new _ _ _)
      have D5 := Lib.hid (next0 hD.out J5.out)
      have O5 := Lib.hid (own_below hO.out J5.out)
      have hBw : B ≤ W5.heap.size := Nat.le_trans hB1 D5.out.size
      have VC2 := Lib.hid (VC.out (W5.alloc (.cells #[.string x.2.nm, .slice q x.2.args.length d] 24)) W5.heap.size (by simp; omega) (Has.new _ _ _) ((hs.deep J5.out (Nat.le_trans hB1 hD.out.size)).gr (Gr.alloc _ _) hBw))
      have hg' : g < wr.heap.size := Nat.lt_of_lt_of_le hg (Nat.le_trans hB1 hD.out.size)
      clear hx hs VC
      rw [NW.out, List.length_append] at hln2
      generalize vsCat h (l.take k) = ys at *
      generalize varsOf (leavesL [x.2]) = zs at *
      generalize x.2.nm = xn at *
      generalize x.2.args.length = xa at *
      generalize x.1 = xb at *
      obtain ⟨y1, y2, y3⟩ := three H5.out
      go_upto_region 5 with fail
      rw [← hW5]
      clear hW5 c1 c2 c3
      go_wp2_with fail
      refine VC2.out.mono ?_
      rintro e w6 ⟨v6, base6, rfl, ho6, hb6, hd6⟩
      have D6 : Hid (Below W1.heap.size W1 w6) := Lib.hid (D5.out.trans ((next1 (Below.refl _ _) hd6).mono D5.out.size))
      have O6 := Lib.hid (own_below O5.out (next1 (Below.refl _ _) hd6))
      clear hd6 hb6 VC2 y1 y2 y3
      rcases ho6.2 with ⟨rfl, h0⟩ | ⟨g6, c6, cur6, rfl, _⟩
      · have hzs : zs = [] := List.eq_nil_of_length_eq_zero h0
        subst hzs
        have O7 : Hid (w6.ownsRow W1.heap.size 9 1 (.slice va ys.length vc) (vsCat h (l.take (k + 1))).length (strs (vsCat h (l.take (k + 1))))) := Lib.hid (by rw [NW.out, List.append_nil]; exact O6.out)
        clear ho6
        go_wp2_with (at_builtin; refine wpList_append_own_none rfl _ _ 56 rfl W1.heap.size 9 i0 1 Tryz.underlying56 hi _ ys.length (strs ys) rfl O6.out rfl ?_)
        go_roundw
        case rel => exact ⟨k + 1, by omega, by go_num, O7, D6⟩
        case measure => simp [intOf]; omega
      · have NWS := ho6.cells (g := g6) rfl
        have A1 : ys.length + zs.length ≤ maxLen := by unfold maxLen; omega
        have A2 : (ys.length + zs.length) * 16 ≤ 140737488355328 := by omega
        have A3 : W1.heap.size ≤ w6.heap.size := D6.out.size
        have A4 : (strs zs).length = zs.length * 1 := by rw [strs_len]; omega
        clear ho6
        go_wp2_with (at_builtin; refine wpList_append_own _ rfl _ _ 56 rfl W1.heap.size 9 i0 (.string ⟨#[]⟩) 1 16 Tryz.underlying56 hi hz0 hz1 hz2 rfl (by decide) _ ys.length (strs ys) rfl O6.out ⟨g6, 0, none⟩ zs.length c6 (strs zs) rfl A4 NWS (strs_one zs) A1 A2 A3 ?_; intro v7 w7 hown7 hgrow7 _)
        have O7 : Hid (w7.ownsRow W1.heap.size 9 1 v7 (vsCat h (l.take (k + 1))).length (strs (vsCat h (l.take (k + 1))))) := Lib.hid (by
          rw [NW.out, List.length_append, strs_app]
          exact hown7)
        have D7 := Lib.hid (D6.out.grown hgrow7 A3 (fun k hk => (O6.out.lt k hk).1))
        clear hown7 hgrow7
        go_wp2_with fail
        go_roundw
        case rel => exact ⟨k + 1, by omega, by go_num, O7, D7⟩
        case measure => simp [intOf]; omega
    · obtain rfl : k = n := by omega
      have O9 := Lib.hid (by have := hO.out; rw [NE.out] at this; exact this)
      rw [NE.out]
      have CS9 := Lib.hid (CS.out W1.heap.size wr _ O9.out)
      clear O9 hO CS hln0
      generalize vsCat h l = ys at *
      go_wp2_with fail
      refine CS9.out.mono ?_
      rintro e w6 ⟨rfl, hO6, k6⟩
      have K6 := Lib.hid (hD.out.trans k6)
      have CP6 := Lib.hid (CP.out W1.heap.size w6 _ hO6)
      clear hO6 k6 CP CS9
      go_wp2_with fail
      refine CP6.out.mono ?_
      rintro e w7 ⟨p7, c7, rfl, hS7, k7⟩
      have S7 := Lib.hid hS7
      have K7 := Lib.hid (J1.out.trans ((K6.out.trans k7).mono hs1))
      clear hS7 k7 CP6
      go_wp2_with fail
      go_ret
      exact ⟨p7, c7, rfl, str_base S7.out hs1, K7.out⟩
end NosD
end Go.Proofs.YtikkaiiinkeobaaGreatDoor
