/- evaluate.outputs in full. Conditions: those of Values; a list of at most a million outputs whose gates are the network's. Made by gnOu.py. -/
import Derived.Test.YtkfeliogglnngaaGreatNetGo
import Derived.Test.YtkfeliogglnngaaGreatNetCp
namespace Go.Proofs.YtkfeliogglnngaaGreat
open Go Go.RowKit
namespace NetOu
open Kit LexM TermM TermI TermH NetM NetN NetK NetA NetC NetI NetMk NetNu NetOk NetEv NetBo NetMb NetS NetVa NetVv NetTr NetGo NetDo NetDf NetCp
/-- The outputs that a role holds. -/
def ouP (g : Tm → Bool) (st ip : List Int) (n : Nt) (r : Int) (l : List Ou) : List Ou := if ouE g st ip n r = 0 then l.filter fun o => decide (o.1 = r) && vAt (valsN st ip n) o.2.2.2 else []
/-- Outputs that were held, and an error. -/
def OuQ (P : List Ou) (er : Int) (B : Nat) (w : World) (e : Ending) (w' : World) : Prop :=
  ∃ (R : List (Ou × Value)) (g : Nat) (p : Option Addr) (c : Nat), R.map (·.1) = P ∧ e = .returned (.tuple #[.slice p P.length c, .int .i64 er]) ∧ (∀ x ∈ R, KO.inn (· < B) w x) ∧ (0 < P.length → p = some ⟨g, 0, none⟩ ∧ g < w'.heap.size) ∧ (∀ (k : Nat) (x : Ou × Value), R[k]? = some x → ∀ (j : Nat) (u : Value), (KO.cells x)[j]? = some u → w'.cell? ⟨g, k * 5 + j, none⟩ = some u) ∧ Below w.heap.size w w'
theorem ouq_mk {P : List Ou} {er : Int} {B : Nat} {w w' : World} {R : List (Ou × Value)} {g c : Nat} (h1 : R.map (·.1) = P) (h2 : ∀ x ∈ R, KO.inn (· < B) w x) (h3 : g < w'.heap.size) (h4 : ∀ (k : Nat) (x : Ou × Value), R[k]? = some x → ∀ (j : Nat) (u : Value), (KO.cells x)[j]? = some u → w'.cell? ⟨g, k * 5 + j, none⟩ = some u) (h5 : Below w.heap.size w w') : OuQ P er B w (.returned (.tuple #[.slice (some ⟨g, 0, none⟩) R.length c, .int .i64 er])) w' := by
  have hl : R.length = P.length := by rw [← h1, List.length_map]
  rw [hl]
  exact ⟨R, g, some ⟨g, 0, none⟩, c, h1, rfl, h2, fun _ => ⟨rfl, h3⟩, h4, h5⟩
theorem ou_zero {g : Tm → Bool} {st ip : List Int} {n : Nt} {r : Int} (h : ouE g st ip n r = 0) : evE g st ip n = 0 ∧ 0 ≤ r ∧ r < (n.roles.length : Int) := by
  unfold ouE at h
  by_cases h1 : evE g st ip n = 0
  · rw [if_neg (by simpa using h1)] at h
    by_cases h2 : inB r n.roles.length = true
    · unfold inB at h2
      rw [Bool.and_eq_true, decide_eq_true_eq, decide_eq_true_eq] at h2
      exact ⟨h1, h2⟩
    · rw [if_neg h2] at h
      exact absurd h (by decide)
  · rw [if_pos (by simpa using h1)] at h
    exact absurd h h1
theorem kept_list (r : Int) (V : List Bool) (L : List (Ou × Value)) : (keptO (delB r V) L).map (·.1) = (L.map (·.1)).filter fun o => decide (o.1 = r) && vAt V o.2.2.2 := by
  unfold keptO
  rw [List.filter_map]
  congr 1
  refine List.filter_congr fun x _ => ?_
  show (!(!(decide (x.1.1 = r) && vAt V x.1.2.2.2))) = (decide (x.1.1 = r) && vAt V x.1.2.2.2)
  rw [Bool.not_not]
set_option maxRecDepth 100000 in
set_option maxHeartbeats 6400000 in
theorem outputs_good (n : Nt) (h : Nh) (st ip : List Int) (l : List Ou) (pl : Option Addr) (cl : Nat) (r : Int) (B : Nat) (w : World) (vs vi : Value) (hB : B ≤ w.heap.size) (k : NetIn (· < B) w n h) (hz : SzN n) (hs : RowE KN (· < B) w st vs) (hi : RowE KN (· < B) w ip vi) (hl : LE KO (· < B) w l (.slice pl l.length cl)) (hlm : l.length ≤ 1000000) (hr : NOk n → ∀ x ∈ l, 0 ≤ x.2.2.2 ∧ x.2.2.2 < (n.gates.length : Int)) (hgood : ouE groundB st ip n r = 0) :
    Calls Tryz.prog 42 #[.agg #[.slice h.gp n.gates.length h.gc, .slice h.rp n.roles.length h.rc, .slice h.bp n.bases.length h.bc, .slice h.ip n.inputs.length h.ic, .slice h.ap n.initial.length h.ac, .slice h.np n.next.length h.nc, .slice h.lp n.legal.length h.lc, .slice h.op n.goals.length h.oc, .slice h.sp n.sees.length h.sc, .int .i64 n.last, .bool n.hid], .slice pl l.length cl, vs, vi, .int .i64 r] w (OuQ (l.filter fun o => decide (o.1 = r) && vAt (valsN st ip n) o.2.2.2) 0 B w) := by
  obtain ⟨ge, r0, r1⟩ := ou_zero hgood
  have EO := eok ge
  have HR := Lib.hid (hr EO.net)
  obtain ⟨L, rfl, hL⟩ := hl
  obtain ⟨W1, hW1⟩ : ∃ z, z = w.alloc (.cells #[.slice h.gp n.gates.length h.gc, .slice h.rp n.roles.length h.rc, .slice h.bp n.bases.length h.bc, .slice h.ip n.inputs.length h.ic, .slice h.ap n.initial.length h.ac, .slice h.np n.next.length h.nc, .slice h.lp n.legal.length h.lc, .slice h.op n.goals.length h.oc, .slice h.sp n.sees.length h.sc, .int .i64 n.last, .bool n.hid] 28) := ⟨_, rfl⟩
  have K1 : Hid (Below w.heap.size w W1) := Lib.hid (by rw [hW1]; exact below_alloc _ _)
  have H1 : Hid (Has W1 w.heap.size (netC n h)) := Lib.hid (by rw [hW1]; exact Has.new _ _ _)
  have hzz := K1.out.size
  have KW := Lib.hid (fun w' (q : Below W1.heap.size W1 w') => show Below w.heap.size w w' from K1.out.trans (q.mono hzz))
  have NK := Lib.hid (fun w' (q : Below W1.heap.size W1 w') => k.deep (KW.out w' q) hB)
  have HQ := Lib.hid (fun w' (q : Below W1.heap.size W1 w') => hasN (H1.out.step0 q))
  obtain ⟨W2, hW2⟩ : ∃ z, z = W1.alloc (.cells #[.int .i64 r] 3) := ⟨_, rfl⟩
  have K2 : Hid (Below W1.heap.size W1 W2) := Lib.hid (by rw [hW2]; exact below_alloc _ _)
  have hz1 : W1.heap.size = w.heap.size + 1 := by rw [hW1]; simp
  have H2 : Hid (Has W2 (w.heap.size + 1) #[.int .i64 r]) := Lib.hid (by rw [hW2, ← hz1]; exact Has.new _ _ _)
  have KK := KW.out W2 K2.out
  have hz2 := K2.out.size
  have hz3 : W2.heap.size = w.heap.size + 2 := by rw [hW2]; simp; omega
  have C1 := Lib.hid (values_any n h st ip B W2 vs vi (Nat.le_trans hB KK.size) (NK.out W2 K2.out) hz (hs.keep fun b o (hb : b < B) => KK.cell (p := ⟨b, o, none⟩) (Nat.lt_of_lt_of_le hb hB)) (hi.keep fun b o (hb : b < B) => KK.cell (p := ⟨b, o, none⟩) (Nat.lt_of_lt_of_le hb hB)))
  rw [ge, evv_ok ge] at C1
  obtain ⟨psl, csl, rfl⟩ := hs.form
  obtain ⟨pil, cil, rfl⟩ := hi.form
  have VL := Lib.hid (valsn_len st ip n)
  clear k hz hs hi hgood KK EO ge hr
  rw [List.length_map] at hlm ⊢
  obtain ⟨q1, q2, q3, q4, q5, q6, q7, q8, q9, q10, q11⟩ := HQ.out W1 (Below.refl _ _)
  generalize valsN st ip n = S at *
  go_enter Tryz.func42, Tryz.ntmps42
  go_upto_region 1 with fail
  rw [← hW1, ← hW2]
  clear hW1 hW2 q1 q2 q3 q4 q5 q6 q7 q8 q9 q10 q11
  obtain ⟨q1, q2, q3, q4, q5, q6, q7, q8, q9, q10, q11⟩ := HQ.out W2 K2.out
  go_wp2_with fail
  refine C1.out.mono ?_
  rintro e w4 ⟨v4, rfl, hv4, g4⟩
  have D4 := Lib.hid (next0 K2.out g4)
  have J4 := Lib.hid g4
  obtain ⟨p4, c4, rfl⟩ := hv4.form
  obtain ⟨W5, hW5⟩ : ∃ z, z = w4.alloc (.cells #[.slice p4 S.length c4] 60) := ⟨_, rfl⟩
  have J5 : Hid (Below w4.heap.size w4 W5) := Lib.hid (by rw [hW5]; exact below_alloc _ _)
  have H5 : Hid (Has W5 w4.heap.size #[.slice p4 S.length c4]) := Lib.hid (by rw [hW5]; exact Has.new _ _ _)
  have hz5 : W5.heap.size = w4.heap.size + 1 := by rw [hW5]; simp
  have D5 := Lib.hid (next0 D4.out J5.out)
  have DD5 := Lib.hid (KW.out _ D5.out)
  have HR5 := Lib.hid ((H2.out.step0 J4.out).step0 J5.out)
  have x0 := HR5.out.cell 0
  have g4s := g4.size
  clear g4 C1 q1 q2 q3 q4 q5 q6 q7 q8 q9 q10 q11
  obtain ⟨q1, q2, q3, q4, q5, q6, q7, q8, q9, q10, q11⟩ := HQ.out W5 D5.out
  obtain ⟨wm, M, MC, MF, MB, ML⟩ := make_o W5 L.length hlm
  have L5 : RowE KO (· < B) wm L (.slice pl L.length cl) := (by
    have e : (L.map (·.1)).length = L.length := List.length_map _
    rw [e] at hL
    exact hL.keep fun b o (hb : b < B) => (MB.cell (p := ⟨b, o, none⟩) (Nat.lt_of_lt_of_le (Nat.lt_of_lt_of_le hb hB) DD5.out.size)).trans (DD5.out.cell (p := ⟨b, o, none⟩) (Nat.lt_of_lt_of_le hb hB)))
  have cp := fun ty => copy_o L5 MC MF ty
  obtain ⟨wc, hwc⟩ : ∃ z, z = wm.setCells W5.heap.size 0 (csO L) := ⟨_, rfl⟩
  have RC : Hid (RowC wc W5.heap.size L) := Lib.hid (by rw [hwc]; exact sc_row MC MF ML)
  have BC : Hid (Below W5.heap.size W5 wc) := Lib.hid (by rw [hwc]; exact sc_below (Nat.le_refl _) _ _ _ MB)
  rw [← hwc] at cp
  clear hwc MC MF MB ML L5
  have y0 := (HR5.out.step0 BC.out).cell 0
  have y1 := (H5.out.step0 BC.out).cell 0
  have FM : Hid (∀ x ∈ L, ∃ p c, x.2 = .slice p x.1.2.2.1.args.length c) := Lib.hid (fun x hx => by
    obtain ⟨p', c', _, _, _, _, h4, _⟩ := hL
    exact (h4 x hx).1.form)
  have IN : Hid (∀ x ∈ L, KO.inn (· < B) w x) := Lib.hid (fun x hx => by
    obtain ⟨p', c', _, _, _, _, h4, _⟩ := hL
    exact h4 x hx)
  have CL : Hid (CloP (delB r S) L (w.heap.size + 1) w4.heap.size W5.heap.size wc) := Lib.hid (fun k r' v' gt t a w' hx hD => by
    obtain ⟨pa, ca, ea⟩ := FM.out _ (List.mem_of_getElem? hx)
    dsimp only at ea
    subst ea
    have hg := HR.out _ (List.mem_map_of_mem (List.mem_of_getElem? hx))
    exact del_any r S (w.heap.size + 1) w4.heap.size W5.heap.size wc w' p4 c4 r' v' gt t.nm pa t.args.length ca hD (by omega) (by omega) y0 y1 ((hv4.keep fun b o hb => ((next0 J5.out BC.out).cell (p := ⟨b, o, none⟩) hb.2)).wide fun b hb => by have := hb.2; show b < W5.heap.size; omega) hg.1 (by have h1 : gt < (n.gates.length : Int) := hg.2; have h2 := VL.out; show gt < (S.length : Int); omega))
  have C3 := Lib.hid (delete_any (delB r S) L W5.heap.size L.length L.length (w.heap.size + 1) w4.heap.size W5.heap.size wc wc RC.out rfl hlm (Nat.le_refl _) hlm (Below.refl _ _) BC.out.size (Nat.le_refl _) FM.out CL.out)
  have hmf : ∀ (fn : Fn) (first cap : Array Value) (w : World), (Instr.makeFunc fn first cap).run Tryz.prog w = .ok (.func fn first cap) w := fun _ _ _ _ => rfl
  have KL := Lib.hid (kept_list r S L)
  have r3 : ¬ (n.roles.length : Int) ≤ r := by omega
  have r2 : ¬ r < 0 := by omega
  clear hL CL RC hv4 y0 y1 hz5 hz3 hz1 g4s r0 r1
  generalize n.roles.length = nr at *
  generalize L.length = nl at *
  go_upto_region 2 with fail
  rw [← hW5]
  clear hW5
  go_wp2_with fail
  refine C3.out.mono ?_
  rintro e w7 ⟨rfl, hc7, g7, s7⟩
  have D7 : Hid (Below w.heap.size w w7) := Lib.hid (DD5.out.trans ((BC.out.trans g7).mono DD5.out.size))
  clear C3 q1 q2 q3 q4 q5 q6 q7 q8 q9 q10 q11
  go_wp2_with fail
  refine bodyPost_ret (v := .tuple #[.slice (some ⟨W5.heap.size, 0, none⟩) (keptO (delB r S) L).length nl, .int .i64 0]) (by simp [results, Tryz.results42, go_sem]) rfl ?_
  exact ouq_mk KL.out (fun x hx => IN.out x ((List.mem_filter.1 hx).1)) s7 hc7 D7.out
theorem outputs_any (n : Nt) (h : Nh) (st ip : List Int) (l : List Ou) (pl : Option Addr) (cl : Nat) (r : Int) (B : Nat) (w : World) (vs vi : Value) (hB : B ≤ w.heap.size) (k : NetIn (· < B) w n h) (hz : SzN n) (hs : RowE KN (· < B) w st vs) (hi : RowE KN (· < B) w ip vi) (hl : LE KO (· < B) w l (.slice pl l.length cl)) (hlm : l.length ≤ 1000000) (hr : NOk n → ∀ x ∈ l, 0 ≤ x.2.2.2 ∧ x.2.2.2 < (n.gates.length : Int)) :
    Calls Tryz.prog 42 #[.agg #[.slice h.gp n.gates.length h.gc, .slice h.rp n.roles.length h.rc, .slice h.bp n.bases.length h.bc, .slice h.ip n.inputs.length h.ic, .slice h.ap n.initial.length h.ac, .slice h.np n.next.length h.nc, .slice h.lp n.legal.length h.lc, .slice h.op n.goals.length h.oc, .slice h.sp n.sees.length h.sc, .int .i64 n.last, .bool n.hid], .slice pl l.length cl, vs, vi, .int .i64 r] w (OuQ (ouP groundB st ip n r l) (ouE groundB st ip n r) B w) := by
  by_cases hg : ouE groundB st ip n r = 0
  · have e : ouP groundB st ip n r l = l.filter fun o => decide (o.1 = r) && vAt (valsN st ip n) o.2.2.2 := by unfold ouP; rw [if_pos hg]
    rw [e, hg]
    exact outputs_good n h st ip l pl cl r B w vs vi hB k hz hs hi hl hlm hr hg
  · have e : ouP groundB st ip n r l = [] := by unfold ouP; rw [if_neg hg]
    refine (outputs_bad n h st ip r B w (.slice pl l.length cl) vs vi hB k hz hs hi hg).mono ?_
    rintro e1 w' ⟨rfl, hb⟩
    rw [e]
    exact ⟨[], 0, none, 0, rfl, rfl, fun x hx => (by cases hx), fun h => (by simp at h), fun k x hx => (by simp at hx), hb⟩
end NetOu
end Go.Proofs.YtkfeliogglnngaaGreat
