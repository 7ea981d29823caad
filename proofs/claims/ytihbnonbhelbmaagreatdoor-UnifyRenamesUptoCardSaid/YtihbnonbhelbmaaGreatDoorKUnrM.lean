/- The walk of UnifyRenames, awake's contract as a premise. Conditions: the head's key is short where it is small; strconv's table of powers of ten is as laid. -/
import Derived.Test.YtihbnonbhelbmaaGreatDoorGE
import Derived.Test.YtihbnonbhelbmaaGreatDoorGC
import Derived.Deep.RegionHeld3
import Derived.Deep.DeepCutAuto
namespace Go.Proofs.YtihbnonbhelbmaaGreatDoor
open Go Go.RowKit
namespace UnrM
open LexM TermM TermI Kit TermN TermU TermL TermE TermF UniK UniM UniA UniD UniE UniF UniG UniH UniP UniT UniV UniW LigM SmrA UnmH UnmI UnqA UnqB UnrA UnrB UnrC UnrF UnrK
theorem size_map : ∀ (l : List Lt), (∀ x ∈ l, sizeT x.2 ≤ 20) → sizeL (l.map (·.2)) ≤ l.length * 20
  | [], _ => by simp [sizeL]
  | a :: l, h => by
    have h1 := size_map l fun x hx => h x (List.mem_cons_of_mem _ hx)
    have h2 := h a List.mem_cons_self
    simp only [List.map_cons, sizeL, List.length_cons]
    omega
theorem ats_small {r : Rl} (h : GR r) : sizeL (atsL r.1 r.2) ≤ 180 := by
  obtain ⟨h1, h2, h3⟩ := h
  have := size_map r.2 h3
  unfold atsL
  simp only [sizeL]
  omega
theorem vars_few {r : Rl} (h : GR r) : (varsOf (leavesL (atsL r.1 r.2))).length ≤ 180 := by
  have h1 := varsOf_len (leavesL (atsL r.1 r.2))
  have h2 := leavesL_len (atsL r.1 r.2)
  have h3 := ats_small h
  omega
/-- What either Rename leaves: the same of both. -/
def BothR (ok : Bool) (u : Tm) (ul : List Lt) (w : World) (e : Ending) (w' : World) : Prop :=
  ∃ (q : Option Addr) (d : Nat) (v : Value), e = .returned (.tuple #[.agg #[.string u.nm, .slice q u.args.length d, v], .bool ok]) ∧ SlIn (fun b => w.heap.size ≤ b ∧ b < w'.heap.size) w' u.args (.slice q u.args.length d) ∧ LIn (fun b => w.heap.size ≤ b ∧ b < w'.heap.size) w' ul v ∧ u.nm.size ≤ maxLen ∧ Below w.heap.size w w'
theorem LIn.nil (ok : Nat → Prop) (w : World) : LIn ok w [] (.slice none 0 0) := ⟨[], rfl, RowG.nil _ _⟩
/-- Both rename alike. -/
theorem both (r : Rl) (pre : ByteArray) (w : World) (hv lv : Value) (hh : SlIn (· < w.heap.size) w r.1.args hv) (hl : LIn (· < w.heap.size) w r.2 lv) (hn : r.1.nm.size ≤ maxLen) (hT : Tab w) (hg : GR r) (hp : pre.size ≤ 40) :
    ∃ (ok : Bool) (u : Tm) (ul : List Lt), ∀ w', Below w.heap.size w w' →
      Calls Tryz.prog 33 #[.agg #[.string r.1.nm, hv, lv], .string pre] w' (BothR ok u ul w') ∧
      Calls Tryz.prog 34 #[.agg #[.string r.1.nm, hv, lv], .string pre] w' (BothR ok u ul w') := by
  have hz := ats_small hg
  have hvf := vars_few hg
  have hll := hg.2.1
  have HS : ∀ w', Below w.heap.size w w' → SlIn (· < w'.heap.size) w' r.1.args _ := fun w' k => (hh.deep k (Nat.le_refl _)).weaken (ok' := (· < w'.heap.size)) fun b hb => Nat.lt_of_lt_of_le hb k.size
  have LS : ∀ w', Below w.heap.size w w' → LIn (· < w'.heap.size) w' r.2 _ := fun w' k => (hl.keep (w' := w') fun b o hb => k.cell (p := ⟨b, o, none⟩) hb).wide (ok' := (· < w'.heap.size)) fun b hb => Nat.lt_of_lt_of_le hb k.size
  rcases first_bad (fun k => varB (newName pre k)) (varsOf (leavesL (atsL r.1 r.2))).length with h | ⟨k0, h1, h2, h3⟩
  · refine ⟨true, _, _, fun w' k => ⟨rename_yes r.1 r.2 pre w' _ _ (tab_below hT k) (HS w' k) (LS w' k) hn (by omega) (by omega) (by omega) h, ?_⟩⟩
    rw [ren_app _ _ (vars_nodup _)]
    exact UnrL.rrename_yes r.1 r.2 pre w' _ _ (HS w' k) (LS w' k) hn (by omega) (by omega) (by omega) (by omega) h
  · refine ⟨false, .mk ⟨#[]⟩ [], [], fun w' k => ⟨(UnrD.rename_no r.1 r.2 pre k0 w' _ _ (tab_below hT k) (HS w' k) (LS w' k) hn (by omega) (by omega) (by omega) (by omega) h1 h2 h3).mono fun _ _ ⟨he, hb⟩ => ⟨none, 0, _, he, SlIn.none _ _, LIn.nil _ _, Nat.zero_le _, hb⟩, (UnrL.rrename_no r.1 r.2 pre k0 h1 h3 w' _ _ (HS w' k) (LS w' k) hn (by omega) (by omega) (by omega) (by omega) h2).mono fun _ _ ⟨he, hb⟩ => ⟨none, 0, _, he, SlIn.none _ _, LIn.nil _ _, Nat.zero_le _, hb⟩⟩⟩
set_option maxRecDepth 100000 in
set_option maxHeartbeats 6400000 in
theorem renames (N : Nat) (h4 : 4 ≤ N) (hN : (N + 3) * 4000000 ≤ 4611686018427387904) (r : Rl) (pre : ByteArray) (w : World) (hv lv : Value) (hh : SlIn (· < w.heap.size) w r.1.args hv) (hl : LIn (· < w.heap.size) w r.2 lv) (hn : r.1.nm.size ≤ maxLen) (hpm : pre.size ≤ maxLen) (hk : sizeT r.1 ≤ 20 → klen r.1 ≤ N) (hT : Tab w) (AW : Aw w) :
    Calls Tryz.prog 8 #[.agg #[.string r.1.nm, hv, lv], .string pre] w fun e w' => e = .returned (.bool true) ∧ Below w.heap.size w w' := by
  obtain ⟨p1, c1, rfl⟩ := hh.form
  obtain ⟨lp, lc, rfl⟩ := hl.form
  obtain ⟨W1, hW1⟩ : ∃ W1, W1 = w.alloc (.cells #[.string r.1.nm, .slice p1 r.1.args.length c1, .slice lp r.2.length lc] 34) := ⟨_, rfl⟩
  have B1 : Hid (Below w.heap.size w W1) := Lib.hid (by rw [hW1]; exact below_alloc _ _)
  have H1 : Hid (Has W1 w.heap.size #[.string r.1.nm, .slice p1 r.1.args.length c1, .slice lp r.2.length lc]) := Lib.hid (by rw [hW1]; exact Has.new _ _ _)
  have CSm := Lib.hid (UnqE.small_any N h4 hN r W1 _ _ ((hh.deep B1.out (Nat.le_refl _)).weaken (ok' := (· < W1.heap.size)) fun b hb => Nat.lt_of_lt_of_le hb B1.out.size) ((hl.keep (w' := W1) fun b o hb => B1.out.cell (p := ⟨b, o, none⟩) hb).wide (ok' := (· < W1.heap.size)) fun b hb => Nat.lt_of_lt_of_le hb B1.out.size) hn hk)
  have CB := Lib.hid (fun hg hp => both r pre w _ _ hh hl hn hT hg hp)
  have AW' := Lib.hid AW
  clear hh hl hn hk AW h4 hN hT
  unfold UnqE.SmlQ at CSm
  unfold Aw at AW'
  unfold maxLen at hpm
  generalize hnm : r.1.nm = rn at *
  generalize hal : r.1.args.length = ra at *
  generalize hbl : r.2.length = rb at *
  clear hnm hal hbl
  obtain ⟨y1, y2, y3⟩ := UniA.three H1.out
  go_enter Tryz.func8, Tryz.ntmps8
  go_upto_region 1 with fail
  rw [← hW1]
  clear hW1
  go_wp2_with fail
  refine CSm.out.mono ?_
  rintro e w3 ⟨b, rfl, hb, k3⟩
  have D3 := Lib.hid (next0 B1.out k3)
  have H3 := Lib.hid (H1.out.step0 k3)
  have GB := Lib.hid hb
  clear y1 y2 y3 k3 hb CSm
  cases b
  · go_wp2_with fail
    refine (AW'.out _ D3.out).mono ?_
    rintro e w4 ⟨rfl, k4⟩
    have D4 := Lib.hid (next0 D3.out k4)
    go_wp2_with fail
    go_ret
    exact ⟨rfl, D4.out⟩
  by_cases hp : 40 < pre.size
  · have hpi : (40 : Int) < (pre.size : Int) := by omega
    go_wp2_with fail
    refine (AW'.out _ D3.out).mono ?_
    rintro e w4 ⟨rfl, k4⟩
    have D4 := Lib.hid (next0 D3.out k4)
    go_wp2_with fail
    go_ret
    exact ⟨rfl, D4.out⟩
  · have hpi : ¬ (40 : Int) < (pre.size : Int) := by omega
    obtain ⟨ok, u, ul, hboth⟩ := CB.out (GB.out rfl) (by omega)
    have CC := Lib.hid (fun w' k => (hboth w' k).1)
    have CR := Lib.hid (fun w' k => (hboth w' k).2)
    clear hboth CB GB
    unfold BothR at CC CR
    obtain ⟨y1, y2, y3⟩ := UniA.three H3.out
    go_upto_region 3 with fail
    go_upto_region 4 with ((go_at_call 33; (with_reducible refine (CC.out _ D3.out).mono ?_); rintro e w4 ⟨q, d, v4, rfl, s4, l4, n4, k4⟩; obtain ⟨vp, vc, rfl⟩ := l4.form))
    have D4 := Lib.hid (next0 D3.out k4)
    have S4 := Lib.hid (fun w' (k : Below w4.heap.size w4 w') => ((s4.weaken (ok' := (· < w4.heap.size)) fun b hb => hb.2).deep k (Nat.le_refl _)).weaken (ok' := (· < w'.heap.size)) fun b hb => Nat.lt_of_lt_of_le hb k.size)
    have L4 := Lib.hid (fun w' (k : Below w4.heap.size w4 w') => ((l4.wide (ok' := (· < w4.heap.size)) fun b hb => hb.2).keep (w' := w') fun b o hb => k.cell (p := ⟨b, o, none⟩) hb).wide (ok' := (· < w'.heap.size)) fun b hb => Nat.lt_of_lt_of_le hb k.size)
    obtain ⟨W5, hW5⟩ : ∃ z, z = w4.alloc (.cells #[.string u.nm, .slice q u.args.length d, .slice vp ul.length vc] 34) := ⟨_, rfl⟩
    have K5 : Hid (Below w4.heap.size w4 W5) := Lib.hid (by rw [hW5]; exact below_alloc _ _)
    have X5 : Hid (Has W5 w4.heap.size #[.string u.nm, .slice q u.args.length d, .slice vp ul.length vc]) := Lib.hid (by rw [hW5]; exact Has.new _ _ _)
    have D5 := Lib.hid (next0 D4.out K5.out)
    have H5 := Lib.hid ((H3.out.step0 k4).step0 K5.out)
    clear s4 l4 n4 k4 y1 y2 y3 D4 CC
    rw [← hW5]
    clear hW5
    obtain ⟨y1, y2, y3⟩ := UniA.three H5.out
    go_upto_region 5 with ((go_at_call 34; (with_reducible refine (CR.out _ D5.out).mono ?_); rintro e w6 ⟨q6, d6, v6, rfl, s6, l6, n6, k6⟩; obtain ⟨vp6, vc6, rfl⟩ := l6.form))
    have D6 := Lib.hid (next0 D5.out k6)
    have S6 := Lib.hid (fun w' (k : Below w6.heap.size w6 w') => ((s6.weaken (ok' := (· < w6.heap.size)) fun b hb => hb.2).deep k (Nat.le_refl _)).weaken (ok' := (· < w'.heap.size)) fun b hb => Nat.lt_of_lt_of_le hb k.size)
    have L6 := Lib.hid (fun w' (k : Below w6.heap.size w6 w') => ((l6.wide (ok' := (· < w6.heap.size)) fun b hb => hb.2).keep (w' := w') fun b o hb => k.cell (p := ⟨b, o, none⟩) hb).wide (ok' := (· < w'.heap.size)) fun b hb => Nat.lt_of_lt_of_le hb k.size)
    obtain ⟨W7, hW7⟩ : ∃ z, z = w6.alloc (.cells #[.string u.nm, .slice q6 u.args.length d6, .slice vp6 ul.length vc6] 34) := ⟨_, rfl⟩
    have K7 : Hid (Below w6.heap.size w6 W7) := Lib.hid (by rw [hW7]; exact below_alloc _ _)
    have X7 : Hid (Has W7 w6.heap.size #[.string u.nm, .slice q6 u.args.length d6, .slice vp6 ul.length vc6]) := Lib.hid (by rw [hW7]; exact Has.new _ _ _)
    have D7 := Lib.hid (next0 D6.out K7.out)
    have X57 := Lib.hid ((X5.out.step0 k6).step0 K7.out)
    have S47 := Lib.hid (S4.out W7 (next0 K5.out (next0 k6 K7.out)))
    have L47 := Lib.hid (L4.out W7 (next0 K5.out (next0 k6 K7.out)))
    have S67 := Lib.hid (S6.out W7 K7.out)
    have L67 := Lib.hid (L6.out W7 K7.out)
    have CE := Lib.hid (UnpP.rule_eq u u ul ul true (by simp) W7.heap.size W7 _ _ _ _ (Nat.le_refl _) S47.out S67.out L47.out L67.out)
    clear s6 l6 n6 k6 y1 y2 y3 D6 CR S4 L4 S6 L6 S47 S67 L47 L67
    rw [← hW7]
    clear hW7
    obtain ⟨y1, y2, y3⟩ := UniA.three X57.out
    obtain ⟨z1, z2, z3⟩ := UniA.three X7.out
    generalize u.nm = un at *
    generalize u.args.length = ua at *
    generalize ul.length = uln at *
    cases ok
    all_goals
      go_wp2_with fail
      (with_reducible refine CE.out.mono ?_)
      rintro e w8 ⟨rfl, g8⟩
      have D8 := Lib.hid (next0 D7.out g8.1)
      clear g8
      go_wp2_with fail
      refine (AW'.out _ D8.out).mono ?_
      rintro e w9 ⟨rfl, k9⟩
      have D9 := Lib.hid (next0 D8.out k9)
      go_wp2_with fail
      go_ret
      exact ⟨rfl, D9.out⟩
end UnrM
end Go.Proofs.YtihbnonbhelbmaaGreatDoor
