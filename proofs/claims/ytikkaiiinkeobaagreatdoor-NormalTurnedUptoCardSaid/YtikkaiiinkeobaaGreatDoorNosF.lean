/- Rule of the code: a rule's normal form, or the error. No conditions but the head's name of an int's length. -/
import Derived.Test.YtikkaiiinkeobaaGreatDoorNosD
import Derived.Test.YtikkaiiinkeobaaGreatDoorNosE
import Derived.Test.YtikkaiiinkeobaaGreatDoorNosT
namespace Go.Proofs.YtikkaiiinkeobaaGreatDoor
open Go Go.RowKit
namespace NosF
open Kit LexM TermM TermI TermN TermU UniK UniM UniA UniE UnpP NorB NorC NorM NorP NorQ NorR NorJ NorK NosD NosS NosQ NosK NosE LigY
def szd : Nat → Nat
  | 0 => 0
  | d + 1 => 1 + 4 * szd d
theorem sizeL_le {m : Nat} : ∀ (l : List Tm), (∀ t ∈ l, sizeT t ≤ m) → sizeL l ≤ l.length * m
  | [], _ => by simp [sizeL]
  | a :: l, h => by
    have h1 := h a List.mem_cons_self
    have h2 := sizeL_le l fun t ht => h t (List.mem_cons_of_mem _ ht)
    simp only [sizeL, List.length_cons, Nat.add_mul, Nat.one_mul]
    omega
theorem size_valid (g : Bool) : ∀ (d : Nat) (t : Tm), validT g d t = true → sizeT t ≤ szd d
  | 0, t, h => by simp [validT] at h
  | d + 1, .mk n l, h => by
    simp only [validT] at h
    split at h
    · rename_i he
      obtain rfl : l = [] := by simpa using he
      simp [sizeT, sizeL, szd]
    · simp only [Bool.and_eq_true, decide_eq_true_eq, List.all_eq_true] at h
      have h2 := sizeL_le (m := szd d) l fun t ht => size_valid g d t (h.2 t ht)
      have h3 : l.length * szd d ≤ 4 * szd d := Nat.mul_le_mul_right _ h.1.1
      simp only [sizeT, szd]
      omega
theorem vl_parts {r : Rl} (h : vlB r = true) : r.2.length ≤ 8 ∧ sizeT r.1 ≤ 85 ∧ ∀ x ∈ r.2, sizeT x.2 ≤ 85 := by
  unfold vlB at h
  simp only [Bool.and_eq_true, decide_eq_true_eq, List.all_eq_true] at h
  exact ⟨h.1, size_valid false 4 _ (NosT.at_valid h.2.1).2, fun x hx => size_valid false 4 _ (NosT.at_valid (h.2.2 x hx)).2⟩
theorem sum_le : ∀ (l : List Lt), (∀ x ∈ l, sizeT x.2 ≤ 85) → (l.map fun x => sizeT x.2).sum ≤ l.length * 85
  | [], _ => by simp
  | a :: l, h => by
    have h1 := h a List.mem_cons_self
    have h2 := sum_le l fun t ht => h t (List.mem_cons_of_mem _ ht)
    simp only [List.map_cons, List.sum_cons, List.length_cons]
    omega
theorem vl_szr {r : Rl} (h : vlB r = true) : szR r.1 r.2 ≤ 1000000 := by
  obtain ⟨h1, h2, h3⟩ := vl_parts h
  have := sum_le r.2 h3
  unfold szR
  omega
theorem vsr_size (r : Rl) : ∀ v ∈ VsR r, v.size ≤ 100 := fun v hv => by
  have h := ((vsr_mem r v).1 hv).1
  unfold varB at h
  have := (NosT.ok_var h).2
  have e : v.data.toList.length = v.size := by simp
  omega
theorem vis_ne (n : Nat) : vis n (namesV n) 0 ≠ [] := fun e => by
  have := vis_all n (namesV n) 0 (by simp [namesV]) (namesV n) (List.Perm.refl _) rfl
  rw [e] at this
  simp at this
theorem nf_of {r x : Rl} {n : Nat} (hn : (VsR r).length = n) (h5 : n ≤ 5) (h : LeastOf ((vis n (namesV n) 0).map (cand (VsR r) r.1 r.2)) x) : IsNF (VsR r) r x := by
  refine (nf_iff (vsr_vars r).1 ((vis n (namesV n) 0).map tms) (fun u => ?_)).2 ?_
  · rw [hn]
    exact vis_tms (by omega) u
  · rw [List.map_map]
    exact h
/-- The error of Rule. -/
def codeN (r : Rl) : Int := if vlB r = true then if 5 < (VsR r).length then 11 else 0 else 13
def zeroR : Rl := (.mk ⟨#[]⟩ [], [])
/-- What Rule answers. -/
def NfOf (r x : Rl) : Prop := (codeN r = 0 → IsNF (VsR r) r x) ∧ (codeN r ≠ 0 → x = zeroR)
theorem nf_det {r x y : Rl} (h : NfOf r x) (k : NfOf r y) : x = y := by
  by_cases e : codeN r = 0
  · exact nf_unique (h.1 e) (k.1 e)
  · rw [h.2 e, k.2 e]
/-- What a call leaves that hands out a rule and an error, all in new memory. -/
def NfR (r : Rl) (w : World) (e : Ending) (w' : World) : Prop :=
  ∃ (x : Rl) (q : Option Addr) (d : Nat) (v : Value), e = .returned (.tuple #[.agg #[.string x.1.nm, .slice q x.1.args.length d, v], .int .i64 (codeN r)]) ∧ NfOf r x ∧ SlIn (fun b => w.heap.size ≤ b ∧ b < w'.heap.size) w' x.1.args (.slice q x.1.args.length d) ∧ LIn (fun b => w.heap.size ≤ b ∧ b < w'.heap.size) w' x.2 v ∧ x.1.nm.size ≤ maxLen ∧ Below w.heap.size w w'
theorem nfr_zero {r : Rl} {w w' : World} {c : Int} (hc : codeN r = c) (h0 : c ≠ 0) (k : Below w.heap.size w w') : NfR r w (.returned (.tuple #[.agg #[.string ⟨#[]⟩, .slice none 0 0, .slice none 0 0], .int .i64 c])) w' :=
  ⟨zeroR, none, 0, .slice none 0 0, by rw [hc]; rfl, ⟨fun e => absurd (hc.symm.trans e) h0, fun _ => rfl⟩, SlIn.none _ _, LIn.nil _ _, Nat.zero_le _, k⟩
set_option maxRecDepth 100000 in
set_option maxHeartbeats 6400000 in
theorem rule_any (h : Tm) (l : List Lt) (B : Nat) (w : World) (hv lv : Value) (hB : B ≤ w.heap.size) (hh : SlIn (· < B) w h.args hv) (hl : LIn (· < B) w l lv) (hnm : h.nm.size ≤ maxLen) :
    Calls Tryz.prog 14 #[.agg #[.string h.nm, hv, lv]] w (NfR (h, l) w) := by
  obtain ⟨pa, ca, rfl⟩ := hh.form
  obtain ⟨pl, cl, rfl⟩ := hl.form
  have hmf : ∀ (fn : Fn) (first cap : Array Value) (w : World), (Instr.makeFunc fn first cap).run Tryz.prog w = .ok (.func fn first cap) w := fun _ _ _ _ => rfl
  obtain ⟨W2, hW2⟩ : ∃ W2, W2 = (w.alloc (.cells #[.string h.nm, .slice pa h.args.length ca, .slice pl l.length cl] 27)).alloc (.cells #[.string ⟨#[]⟩, .slice none 0 0, .slice none 0 0] 27) := ⟨_, rfl⟩
  have B2 : Hid (Below w.heap.size w W2) := Lib.hid (by rw [hW2]; exact next0 (below_alloc _ _) (below_alloc _ _))
  have H2 : Hid (Has W2 w.heap.size #[.string h.nm, .slice pa h.args.length ca, .slice pl l.length cl]) := Lib.hid (by rw [hW2]; exact (Has.new w _ _).alloc _)
  have E2 : Hid (Has W2 (w.heap.size + 1) #[.string ⟨#[]⟩, .slice none 0 0, .slice none 0 0]) := Lib.hid (by rw [hW2]; exact Has.new1 w _ _ _)
  have hs2 : w.heap.size + 2 ≤ W2.heap.size := by rw [hW2]; simp
  have HS := Lib.hid (fun w' (k : Below w.heap.size w w') => hh.deep k hB)
  have HL := Lib.hid (fun w' (k : Below w.heap.size w w') => hl.keep (w' := w') fun b o hb => k.cell (p := ⟨b, o, none⟩) (Nat.lt_of_lt_of_le hb hB))
  have CV := Lib.hid (valid_any (h, l) B W2 _ _ (by omega) hnm (HS.out W2 B2.out) (HL.out W2 B2.out))
  have VZ : Hid (vlB (h, l) = true → codeN (h, l) = if 5 < (VsR (h, l)).length then 11 else 0) := Lib.hid (fun e => by unfold codeN; rw [if_pos e])
  have VN : Hid (vlB (h, l) = false → codeN (h, l) = 13) := Lib.hid (fun e => by unfold codeN; rw [if_neg (by rw [e]; simp)])
  have VP := Lib.hid (fun e => vl_parts (r := (h, l)) e)
  have VC := Lib.hid (fun (e : vlB (h, l) = true) w' (k : Below w.heap.size w w') => varsof_any h l l.length rfl (by have := (vl_parts e).1; exact Nat.le_trans this (by omega)) (vl_szr (r := (h, l)) e) B w' _ _ (Nat.le_trans hB k.size) (HS.out w' k) hnm (HL.out w' k))
  have SH := Lib.hid (hh.weaken fun b hb => Nat.lt_of_lt_of_le hb hB)
  have SL := Lib.hid (hl.wide fun b hb => Nat.lt_of_lt_of_le hb hB)
  have HNM := Lib.hid hnm
  clear hh hl HS HL hnm
  generalize hvb : vlB (h, l) = vb at *
  have HVB := Lib.hid hvb
  clear hvb
  obtain ⟨b1, b2, b3, b4, b5, b6, b7⟩ := UnpP.has3 H2.out
  go_enter Tryz.func14, Tryz.ntmps14
  go_upto_region 1 with fail
  rw [← hW2]
  clear hW2
  go_wp2_with fail
  refine CV.out.mono ?_
  rintro e w3 ⟨rfl, g3⟩
  have K3 := Lib.hid (next0 B2.out g3.1)
  have H3 := Lib.hid (H2.out.step0 g3.1)
  have E3 := Lib.hid (E2.out.step0 g3.1)
  clear g3 b1 b2 b3 b4 b5 b6 b7 H2 E2 CV B2
  cases vb
  · have C13 := Lib.hid (VN.out rfl)
    obtain ⟨f1, f2, f3, f4, f5, f6, f7⟩ := UnpP.has3 E3.out
    have R6 := UnmH.put3 E3.out (.string ⟨#[]⟩) (.slice none 0 0) (.slice none 0 0)
    obtain ⟨r1, r2, r3⟩ := UniA.three R6
    have K6 := Lib.hid (((K3.out.setCell (p := ⟨w.heap.size + 1, 0, none⟩) (by simp) (.string ⟨#[]⟩)).setCell (p := ⟨w.heap.size + 1, 1, none⟩) (by simp) (.slice none 0 0)).setCell (p := ⟨w.heap.size + 1, 2, none⟩) (by simp) (.slice none 0 0))
    clear R6 VZ VC VP
    go_wp2_with fail
    refine bodyPost_ret (v := .tuple #[.agg #[.string ⟨#[]⟩, .slice none 0 0, .slice none 0 0], .int .i64 13]) (by simp [results, Tryz.results14, go_sem, r1, r2, r3]) rfl ?_
    exact nfr_zero C13.out (by decide) K6.out
  · have VC3 := Lib.hid (VC.out rfl w3 K3.out)
    have C11 := Lib.hid (VZ.out rfl)
    have P8 := Lib.hid (VP.out rfl)
    clear VN VC VP VZ
    have VS := Lib.hid (vsr_size (h, l))
    have VT := Lib.hid (vsr_srt (h, l))
    have NO := Lib.hid (fun n x (hn : (VsR (h, l)).length = n) h5 hl => nf_of (r := (h, l)) (x := x) (n := n) hn h5 hl)
    have NFR : Hid (∀ x, codeN (h, l) = 0 → IsNF (VsR (h, l)) (h, l) x → NfOf (h, l) x) := Lib.hid (fun x e hx => ⟨fun _ => hx, fun e' => absurd e e'⟩)
    generalize hV : VsR (h, l) = V at *
    obtain ⟨b1, b2, b3, b4, b5, b6, b7⟩ := UnpP.has3 H3.out
    go_wp2_with fail
    refine VC3.out.mono ?_
    rintro e w4 ⟨p, c, rfl, hst, k4⟩
    have K4 := Lib.hid (next0 K3.out k4)
    have H4 := Lib.hid (H3.out.step0 k4)
    have E4 := Lib.hid (E3.out.step0 k4)
    have hs34 := k4.size
    have ST : Hid (StrR w3.heap.size w4 p V) := Lib.hid hst
    clear k4 hst b1 b2 b3 b4 b5 b6 b7 H3 E3 VC3
    generalize hn : V.length = n at *
    have HN := Lib.hid hn
    clear hn
    by_cases h5 : 5 < n
    · have h5' : (5 : Int) < n := by omega
      rw [if_pos h5] at C11
      obtain ⟨f1, f2, f3, f4, f5, f6, f7⟩ := UnpP.has3 E4.out
      have R6 := UnmH.put3 E4.out (.string ⟨#[]⟩) (.slice none 0 0) (.slice none 0 0)
      obtain ⟨r1, r2, r3⟩ := UniA.three R6
      have K6 := Lib.hid (((K4.out.setCell (p := ⟨w.heap.size + 1, 0, none⟩) (by simp) (.string ⟨#[]⟩)).setCell (p := ⟨w.heap.size + 1, 1, none⟩) (by simp) (.slice none 0 0)).setCell (p := ⟨w.heap.size + 1, 2, none⟩) (by simp) (.slice none 0 0))
      clear R6 P8 VS VT NO NFR
      go_wp2_with fail
      refine bodyPost_ret (v := .tuple #[.agg #[.string ⟨#[]⟩, .slice none 0 0, .slice none 0 0], .int .i64 11]) (by simp [results, Tryz.results14, go_sem, r1, r2, r3]) rfl ?_
      exact nfr_zero C11.out (by decide) K6.out
    · have h5' : ¬ (5 : Int) < n := by omega
      rw [if_neg h5] at C11
      obtain ⟨W6, hW6⟩ : ∃ z, z = (w4.alloc (.cells #[.string ⟨#[]⟩, .slice none 0 0, .slice none 0 0] 27)).alloc (.cells #[.bool false] 4) := ⟨_, rfl⟩
      have J6 : Hid (Below w4.heap.size w4 W6) := Lib.hid (by rw [hW6]; exact next0 (below_alloc _ _) (below_alloc _ _))
      have L6 : Hid (Has W6 w4.heap.size #[.string ⟨#[]⟩, .slice none 0 0, .slice none 0 0]) := Lib.hid (by rw [hW6]; exact (Has.new _ _ _).alloc _)
      have F6 : Hid (Has W6 (w4.heap.size + 1) #[.bool false]) := Lib.hid (by rw [hW6]; exact Has.new1 _ _ _ _)
      have hs6 : w4.heap.size + 2 ≤ W6.heap.size := by rw [hW6]; simp
      have K6 := Lib.hid (next0 K4.out J6.out)
      have H6 := Lib.hid (H4.out.step0 J6.out)
      have E6 := Lib.hid (E4.out.step0 J6.out)
      have hs24 : w.heap.size + 2 ≤ w4.heap.size := by have := E4.out.lt; omega
      have ROW : Hid (∀ i v, V[i]? = some v → ∃ b o, p = some ⟨b, o, none⟩ ∧ b < W6.heap.size ∧ W6.cell? ⟨b, o + i, none⟩ = some (.string v)) := Lib.hid (fun i v hv => by
        obtain ⟨g, e, _, h2, h3⟩ := ST.out i v hv
        refine ⟨g, 0, e, by omega, ?_⟩
        rw [Nat.zero_add]
        exact (J6.out.cell (p := ⟨g, i, none⟩) h2).trans h3)
      have HVS := Lib.hid (fun (pre : List (List ByteArray)) (ns : List ByteArray) (w' : World) (hns : ns.length = n) (h100 : ∀ x ∈ ns, x.size ≤ 100) (hp : PP w W6.heap.size W6.heap.size (w4.heap.size + 1) w.heap.size w4.heap.size V h l (.slice pa h.args.length ca) (.slice pl l.length cl) pre w' ∧ Has w' (w.heap.size + 1) #[.string ⟨#[]⟩, .slice none 0 0, .slice none 0 0]) (hR : Rw w' W6.heap.size V ns) =>
        show Calls Tryz.prog 35 #[.slice (some ⟨W6.heap.size, 0, none⟩) n n, .pointer (some ⟨w4.heap.size + 1, 0, none⟩), .pointer (some ⟨w.heap.size, 0, none⟩), .pointer (some ⟨w4.heap.size, 0, none⟩)] w' (fun e w'' => e = .returned (.tuple #[]) ∧ (PP w W6.heap.size W6.heap.size (w4.heap.size + 1) w.heap.size w4.heap.size V h l (.slice pa h.args.length ca) (.slice pl l.length cl) (pre ++ [ns]) w'' ∧ Has w'' (w.heap.size + 1) #[.string ⟨#[]⟩, .slice none 0 0, .slice none 0 0]) ∧ Rw w'' W6.heap.size V ns) from
        (step_any V n HN.out (by omega) VT.out VS.out h l _ _ w W6.heap.size W6.heap.size (w4.heap.size + 1) w.heap.size w4.heap.size (Nat.le_refl _) (by omega) (by omega) (by omega) (by omega) (by omega) (by omega) (by omega) SH.out SL.out HNM.out (Nat.le_trans P8.out.1 (by omega)) (Nat.le_trans P8.out.2.1 (by omega)) (fun x hx => Nat.le_trans (P8.out.2.2 x hx) (by omega)) pre ns w' hns h100 hp.1 hR).mono
          fun _ _ ⟨he, a, b, c⟩ => ⟨he, ⟨a, c.has hp.2 (by omega)⟩, b⟩)
      have P00 := Lib.hid (fun (w' : World) (k : Below W6.heap.size W6 w') => show PP w W6.heap.size W6.heap.size (w4.heap.size + 1) w.heap.size w4.heap.size V h l (.slice pa h.args.length ca) (.slice pl l.length cl) [] w' ∧ Has w' (w.heap.size + 1) #[.string ⟨#[]⟩, .slice none 0 0, .slice none 0 0] from
        ⟨⟨next0 K6.out k, k.size, H6.out.step0 k, F6.out.step0 k, zeroR, none, 0, .slice none 0 0, L6.out.step0 k, SlIn.none _ _, LIn.nil _ _, Nat.zero_le _, fun e => absurd rfl e⟩, E6.out.step0 k⟩)
      have KR := Lib.hid (renaming_any V n W6 p c (.pointer (some ⟨w4.heap.size + 1, 0, none⟩)) (.pointer (some ⟨w.heap.size, 0, none⟩)) (.pointer (some ⟨w4.heap.size, 0, none⟩)) (by omega) HN.out ROW.out
        (fun pre w' => PP w W6.heap.size W6.heap.size (w4.heap.size + 1) w.heap.size w4.heap.size V h l (.slice pa h.args.length ca) (.slice pl l.length cl) pre w' ∧ Has w' (w.heap.size + 1) #[.string ⟨#[]⟩, .slice none 0 0, .slice none 0 0])
        (fun pre w1 w' hp hc => ⟨hp.1.ch hc (by omega) (Nat.le_refl _) (by omega) (by omega) (by omega), hc.has hp.2 (by omega)⟩) HVS.out P00.out)
      clear ROW HVS P00 P8 VS VT ST SH SL HNM H4 E4 L6 F6
      go_upto_region 8 with fail
      rw [← hW6]
      clear hW6
      go_wp2_with fail
      refine KR.out.mono ?_
      rintro e w7 ⟨rfl, ⟨hp, hr⟩, _⟩
      obtain ⟨k0, hS1, _, _, x, q, d, v, hbl, hsx, hlx, hnx, hle⟩ := hp
      have NF := Lib.hid (NO.out n x rfl (by omega) (hle (vis_ne n)))
      obtain ⟨xp, xc, rfl⟩ := hlx.form
      have C0 := C11.out
      have NF2 := Lib.hid (NFR.out x C0 NF.out)
      have K7 := Lib.hid k0
      have R7 := Lib.hid hr
      have S7 := Lib.hid hsx
      have L7 := Lib.hid hlx
      have X7 := Lib.hid hnx
      have B7 := Lib.hid hbl
      clear KR k0 hr hsx hlx hnx hbl hle NO NFR NF C11
      have CC0 := Lib.hid C0
      clear C0
      obtain ⟨W9, hW9⟩ : ∃ z, z = ((w7.setCell ⟨w.heap.size + 1, 0, none⟩ (.string x.1.nm)).setCell ⟨w.heap.size + 1, 1, none⟩ (.slice q x.1.args.length d)).setCell ⟨w.heap.size + 1, 2, none⟩ (.slice xp x.2.length xc) := ⟨_, rfl⟩
      have R6 := UnmH.put3 R7.out (.string x.1.nm) (.slice q x.1.args.length d) (.slice xp x.2.length xc)
      obtain ⟨r1, r2, r3⟩ := UniA.three R6
      have P9 : Hid (LigY.Lt (· = w.heap.size + 1) w7 W9) := Lib.hid (by rw [hW9]; exact Lt.put (ex := (· = w.heap.size + 1)) (p := ⟨w.heap.size + 1, 2, none⟩) (Lt.put (ex := (· = w.heap.size + 1)) (p := ⟨w.heap.size + 1, 1, none⟩) (Lt.put (ex := (· = w.heap.size + 1)) (p := ⟨w.heap.size + 1, 0, none⟩) (Lt.of (Below.refl _ _)) (Or.inl rfl) _) (Or.inl rfl) _) (Or.inl rfl) _)
      have hz9 := P9.out.size
      have X9 : Hid (NfR (h, l) w (.returned (.tuple #[.agg #[.string x.1.nm, .slice q x.1.args.length d, .slice xp x.2.length xc], .int .i64 0])) W9) := Lib.hid ⟨x, q, d, _, by rw [CC0.out], NF2.out, (S7.out.frame fun b o hb => P9.out.cell hb.2.1 (by have := hb.1; omega)).weaken fun b hb => ⟨by omega, by omega⟩, (L7.out.keep fun b o hb => P9.out.cell hb.2.1 (by have := hb.1; omega)).wide fun b hb => ⟨by omega, by omega⟩, X7.out, K7.out.trans (P9.out.toBelow (by omega) fun i hi => by omega)⟩
      have HW9 := Lib.hid hW9
      obtain ⟨f1, f2, f3, f4, f5, f6, f7⟩ := UnpP.has3 R7.out
      obtain ⟨g1, g2, g3, g4, g5, g6, g7⟩ := UnpP.has3 B7.out
      clear R6 P9 hz9 hW9 S7 L7 NF2 X7
      generalize x.1.nm = xn at *
      generalize x.1.args.length = xa at *
      generalize x.2.length = xl at *
      go_wp2_with fail
      refine bodyPost_ret (v := .tuple #[.agg #[.string xn, .slice q xa d, .slice xp xl xc], .int .i64 0]) (by simp [results, Tryz.results14, go_sem, r1, r2, r3]) rfl ?_
      rw [← HW9.out]
      exact X9.out
end NosF
end Go.Proofs.YtikkaiiinkeobaaGreatDoor
