/- Texts laid together: NosE; NosT; NosF; NosV. Their own heads stand before each. -/
import Derived.Test.YtdkpflojdnkbnaaGreatDoorHCB
import Derived.Test.YtdkpflojdnkbnaaGreatDoorHCC
import Derived.Test.YtdkpflojdnkbnaaGreatDoorHBD
import Derived.Test.YtdkpflojdnkbnaaGreatDoorHAK
import Derived.Test.YtdkpflojdnkbnaaGreatDoorHBF
import Derived.Test.YtdkpflojdnkbnaaGreatDoorHAW
import Derived.Deep.RegionHeld
import Derived.Test.YtdkpflojdnkbnaaGreatDoorHAA
import Derived.Test.YtdkpflojdnkbnaaGreatDoorHAO
import Derived.Test.YtdkpflojdnkbnaaGreatDoorHBE
import Derived.Test.YtdkpflojdnkbnaaGreatDoorHCA
import Derived.Test.YtdkpflojdnkbnaaGreatDoorHAJ
/- What Rule of the code calls for each renaming: the least rule so far. Conditions: at most a hundred variables, ascending; at most a thousand literals; at most a million parts each. -/
namespace Go.Proofs.YtdkpflojdnkbnaaGreatDoor
open Go Go.RowKit
namespace NosE
open Kit LexM TermM TermI TermN TermU TermQ TermR UniK UniM UniA UniC UniD UniE UniF UnpP NorM NorP NorQ NorR NorJ NorA NosC NosK LigY UnqA UnqB UnqD
/-- The rule for one renaming. -/
def cand (V : List ByteArray) (h : Tm) (l : List Lt) (ns : List ByteArray) : Rl := cnd V (h, l) (tms ns)
theorem row_flat (vs ns : List ByteArray) : rowB vs ns = KB.flat ((vs.zip (tms ns)).map fun x => (x, Value.slice none 0 0)) := by
  unfold rowB Kd.flat tms
  rw [List.zip_map_right, List.map_map, List.flatMap_map]
  rfl
theorem zip_mem {vs ns : List ByteArray} {x : Bd} (h : x ∈ vs.zip (tms ns)) : x.1 ∈ vs ∧ ∃ b ∈ ns, x.2 = .mk b [] := by
  obtain ⟨h1, h2⟩ := List.of_mem_zip (a := x.1) (b := x.2) h
  obtain ⟨b, hb, e⟩ := List.mem_map.1 h2
  exact ⟨h1, b, hb, e.symm⟩
/-- The bindings in memory. -/
theorem rw_sin {w : World} {g n : Nat} {vs ns : List ByteArray} (h : Rw w g vs ns) (hv : vs.length = n) (hn : ns.length = n) (h1 : ∀ x ∈ ns, x.size ≤ 100) (h2 : ∀ x ∈ vs, x.size ≤ 100) (hm : n ≤ 100) :
    SIn (· < w.heap.size) w (vs.zip (tms ns)) (.slice (some ⟨g, 0, none⟩) n n) := by
  have hl : (vs.zip (tms ns)).length = n := by simp [tms, hv, hn]
  refine ⟨(vs.zip (tms ns)).map fun x => (x, Value.slice none 0 0), by rw [List.map_map]; exact List.map_id _, some ⟨g, 0, none⟩, n, by rw [List.length_map, hl], by rw [List.length_map, hl]; exact Nat.le_refl _, by unfold maxLen; omega, fun x hx => ?_, fun _ => ⟨g, 0, rfl, Has.lt h, fun i x hx j u hu => ?_⟩⟩
  · obtain ⟨y, hy, rfl⟩ := List.mem_map.1 hx
    obtain ⟨a1, b, hb, a2⟩ := zip_mem hy
    have a3 := h2 _ a1
    have a4 := h1 _ hb
    show SlIn _ _ y.2.args _ ∧ y.2.nm.size ≤ maxLen ∧ y.1.size ≤ maxLen
    rw [a2]
    exact ⟨SlIn.none _ _, Nat.le_trans a4 (by unfold maxLen; omega), Nat.le_trans a3 (by unfold maxLen; omega)⟩
  · have f := flat_get (K := KB) _ i x hx j u hu
    rw [← row_flat] at f
    refine (Has.cell h _).trans ?_
    rw [List.getElem?_toArray, Nat.zero_add]
    exact f
theorem zip_srt {vs : List ByteArray} (hs : vs.Pairwise fun x y => lexB x.data.toList y.data.toList < 0) (u : List Tm) : Srt (vs.zip u) := fun i j x y hij hx hy => by
  have h1 := (List.getElem?_zip_eq_some.1 hx).1
  have h2 := (List.getElem?_zip_eq_some.1 hy).1
  obtain ⟨a1, a2⟩ := List.getElem?_eq_some_iff.1 h1
  obtain ⟨b1, b2⟩ := List.getElem?_eq_some_iff.1 h2
  have := List.pairwise_iff_getElem.1 hs i j a1 b1 hij
  rwa [a2, b2] at this
theorem zip_sz {vs ns : List ByteArray} (h : vs.length ≤ 100) : Sz (vs.zip (tms ns)) := by
  refine ⟨by have : (vs.zip (tms ns)).length ≤ vs.length := by simp; omega
             omega, fun y hy => ?_⟩
  obtain ⟨_, b, _, e⟩ := zip_mem hy
  rw [e]
  simp [sizeT, sizeL]
theorem lt_trans2 {ex ex2 : Nat → Prop} {a b c : World} (h : LigY.Lt ex a b) (k : LigY.Lt ex2 b c) (hx : ∀ i, ex2 i → ex i ∨ a.heap.size ≤ i) : LigY.Lt ex a c :=
  ⟨k.os.trans h.os, k.tape.trans h.tape, k.output.trans h.output, Nat.le_trans h.size k.size, fun i hi hn => (k.block i (Nat.lt_of_lt_of_le hi h.size) fun e => by rcases hx i e with e | e; exact hn e; omega).trans (h.block i hi hn)⟩
/-- What is kept while the renamings are gone through: the rule, whether one was found, the least so far. -/
def PP (w0 : World) (S g bf br bl : Nat) (V : List ByteArray) (h : Tm) (l : List Lt) (hv lv : Value) (pre : List (List ByteArray)) (w : World) : Prop :=
  Below w0.heap.size w0 w ∧ S ≤ w.heap.size ∧ Has w br #[.string h.nm, hv, lv] ∧ Has w bf #[.bool (!pre.isEmpty)] ∧
  ∃ (x : Rl) (q : Option Addr) (d : Nat) (v : Value), Has w bl #[.string x.1.nm, .slice q x.1.args.length d, v] ∧ SlIn (fun b => S ≤ b ∧ b < w.heap.size ∧ b ≠ g) w x.1.args (.slice q x.1.args.length d) ∧ LIn (fun b => S ≤ b ∧ b < w.heap.size ∧ b ≠ g) w x.2 v ∧ x.1.nm.size ≤ maxLen ∧ (pre ≠ [] → LeastOf (pre.map (cand V h l)) x)
theorem PP.ch {w0 : World} {S g bf br bl : Nat} {V : List ByteArray} {h : Tm} {l : List Lt} {hv lv : Value} {pre : List (List ByteArray)} {w w' : World} (hP : PP w0 S g bf br bl V h l hv lv pre w) (hc : Ch g w w') (hS : w0.heap.size ≤ S) (hg : S ≤ g) (h1 : bf < S) (h2 : br < S) (h3 : bl < S) :
    PP w0 S g bf br bl V h l hv lv pre w' := by
  obtain ⟨k0, hS1, hbr, hbf, x, q, d, v, hbl, hsx, hlx, hnx, hle⟩ := hP
  have hz := hc.size
  refine ⟨k0.trans (hc.toBelow (by omega) (by omega)), by omega, hc.has hbr (by omega), hc.has hbf (by omega), x, q, d, v, hc.has hbl (by omega), ?_, ?_, hnx, hle⟩
  · exact (hsx.frame fun b o hb => hc.cell hb.2.1 hb.2.2).weaken fun b hb => ⟨hb.1, by omega, hb.2.2⟩
  · exact (hlx.keep fun b o hb => hc.cell hb.2.1 hb.2.2).wide fun b hb => ⟨hb.1, by omega, hb.2.2⟩
theorem cmp_gt {u y : Tm} {m k : List Lt} (h : 0 < cmpT u y) : ¬ cmpR (u, m) (y, k) < 0 := by
  show ¬ thn (cmpT u y) (cmpLs m k) < 0
  unfold thn
  rw [if_neg (by omega)]
  omega
set_option maxRecDepth 100000 in
set_option maxHeartbeats 6400000 in
theorem step_any (V : List ByteArray) (n : Nat) (hVn : V.length = n) (hn : n ≤ 100) (hsrt : V.Pairwise fun x y => lexB x.data.toList y.data.toList < 0) (hV1 : ∀ x ∈ V, x.size ≤ 100) (h : Tm) (l : List Lt) (hv lv : Value) (w0 : World) (S g bf br bl : Nat)
    (hg : S ≤ g) (h1 : bf < S) (h3 : bl < S) (h1' : w0.heap.size ≤ bf) (h3' : w0.heap.size ≤ bl) (n1 : bf ≠ br) (n2 : bf ≠ bl) (n3 : br ≠ bl)
    (hh : SlIn (· < w0.heap.size) w0 h.args hv) (hl : LIn (· < w0.heap.size) w0 l lv) (hnm : h.nm.size ≤ maxLen) (hll : l.length ≤ 1000) (hz : sizeT h ≤ 1000000) (hzl : ∀ x ∈ l, sizeT x.2 ≤ 1000000)
    (pre : List (List ByteArray)) (ns : List ByteArray) (w : World) (hns : ns.length = n) (h100 : ∀ x ∈ ns, x.size ≤ 100) (hP : PP w0 S g bf br bl V h l hv lv pre w) (hR : Rw w g V ns) :
    Calls Tryz.prog 35 #[.slice (some ⟨g, 0, none⟩) n n, .pointer (some ⟨bf, 0, none⟩), .pointer (some ⟨br, 0, none⟩), .pointer (some ⟨bl, 0, none⟩)] w fun e w' => e = .returned (.tuple #[]) ∧ PP w0 S g bf br bl V h l hv lv (pre ++ [ns]) w' ∧ Rw w' g V ns ∧ LigY.Lt (fun b => b = bl ∨ b = bf) w w' := by
  obtain ⟨pa, ca, rfl⟩ := hh.form
  obtain ⟨pl, cl, rfl⟩ := hl.form
  obtain ⟨k0, hS1, hbr, hbf, x, q, d, v, hbl, hsx, hlx, hnx, hle⟩ := hP
  obtain ⟨xp, xc, rfl⟩ := hlx.form
  have hgl := Has.lt hR
  have hz0 := k0.size
  have hss := rw_sin hR hVn hns h100 hV1 hn
  have hSr := zip_srt hsrt (tms ns)
  have hSz := zip_sz (vs := V) (ns := ns) (by omega)
  have hh2 : SlIn (· < w.heap.size) w h.args (.slice pa h.args.length ca) := (hh.deep k0 (Nat.le_refl _)).weaken fun b hb => Nat.lt_of_lt_of_le hb hz0
  have hl2 : LIn (· < w.heap.size) w l (.slice pl l.length cl) := (hl.keep fun b o hb => k0.cell (p := ⟨b, o, none⟩) hb).wide fun b hb => Nat.lt_of_lt_of_le hb hz0
  have CA := Lib.hid (fun w' (k : Below w.heap.size w w') => apply_any (V.zip (tms ns)) hSr hSz h w.heap.size w' _ _ k.size (hss.deep k (Nat.le_refl _)) (hh2.deep k (Nat.le_refl _)) hnm hz)
  have CR := Lib.hid (fun w' (k : Below w.heap.size w w') => arule_own (V.zip (tms ns)) hSr hSz h l w' _ _ _ ((hss.deep k (Nat.le_refl _)).wide fun b hb => Nat.lt_of_lt_of_le hb k.size) ((hh2.deep k (Nat.le_refl _)).weaken fun b hb => Nat.lt_of_lt_of_le hb k.size) ((hl2.keep fun b o hb => k.cell (p := ⟨b, o, none⟩) hb).wide fun b hb => Nat.lt_of_lt_of_le hb k.size) hnm hll hz hzl)
  have EC : Hid (cand V h l ns = (appT (V.zip (tms ns)) h, arrL (atomsL (appT (V.zip (tms ns))) l))) := Lib.hid rfl
  have ML : Hid ((atomsL (appT (V.zip (tms ns))) l).length ≤ 1000) := Lib.hid (by unfold atomsL; rw [List.length_map]; exact hll)
  clear hh2 hl2 hss hSr hSz hh hl
  generalize appT (V.zip (tms ns)) h = u at *
  generalize atomsL (appT (V.zip (tms ns))) l = m at *
  -- what the least rule compares as
  have CC := Lib.hid (fun (w3 : World) (k3 : Below w.heap.size w w3) (sv : Value) (hs3 : SlIn (· < w3.heap.size) w3 u.args sv) (hn3 : u.nm.size ≤ maxLen) (w4 : World) (g4 : Gr w3 w4) =>
    cmp_any u w3.heap.size w4 sv x.1 (.slice q x.1.args.length d) g4.size hn3 hnx (hs3.gr g4 (Nat.le_refl _)) (((hsx.frame fun b o hb => (k3.trans (g4.1.mono k3.size)).cell (p := ⟨b, o, none⟩) hb.2.1)).weaken fun b hb => Nat.lt_of_lt_of_le hb.2.1 k3.size))
  have XK := Lib.hid (fun (W : World) (k : LigY.Lt (fun b => b = bl ∨ b = bf) w W) => show SlIn (fun b => S ≤ b ∧ b < w.heap.size ∧ b ≠ g) W x.1.args (.slice q x.1.args.length d) ∧ LIn (fun b => S ≤ b ∧ b < w.heap.size ∧ b ≠ g) W x.2 (.slice xp x.2.length xc) from
    ⟨hsx.frame fun b o hb => k.cell hb.2.1 (by have := hb.1; omega), hlx.keep fun b o hb => k.cell hb.2.1 (by have := hb.1; omega)⟩)
  -- the two endings
  have FK := Lib.hid (fun (W : World) (k : Below w.heap.size w W) (hpre : pre ≠ []) (hc : ¬ cmpR (u, arrL m) x < 0) => show PP w0 S g bf br bl V h l (.slice pa h.args.length ca) (.slice pl l.length cl) (pre ++ [ns]) W ∧ Rw W g V ns ∧ LigY.Lt (fun b => b = bl ∨ b = bf) w W from
    ⟨⟨next0 k0 k, Nat.le_trans hS1 k.size, hbr.step0 k, by
        have e : (!(pre ++ [ns]).isEmpty) = !pre.isEmpty := by cases pre <;> simp at hpre ⊢
        rw [e]; exact hbf.step0 k, x, q, d, _, hbl.step0 k, (XK.out W (Lt.of k)).1.weaken (fun b hb => ⟨hb.1, Nat.lt_of_lt_of_le hb.2.1 k.size, hb.2.2⟩), (XK.out W (Lt.of k)).2.wide (fun b hb => ⟨hb.1, Nat.lt_of_lt_of_le hb.2.1 k.size, hb.2.2⟩), hnx, fun _ => by
        rw [List.map_append, List.map_cons, List.map_nil, EC.out]
        exact (least_snoc (hle hpre)).2 hc⟩, hR.step0 k, Lt.of k⟩)
  have FS := Lib.hid (fun (W : World) (k : LigY.Lt (fun b => b = bl ∨ b = bf) w W) (q5 : Option Addr) (d5 : Nat) (v5 : Value) (R2 : Nat) (hR1 : w.heap.size ≤ R2) (hR2 : R2 ≤ W.heap.size) (b1 : Has W bf #[.bool true]) (b2 : Has W bl #[.string u.nm, .slice q5 u.args.length d5, v5]) (b3 : SlIn (fun b => w.heap.size ≤ b ∧ b < R2) W u.args (.slice q5 u.args.length d5)) (b4 : LIn (fun b => w.heap.size ≤ b ∧ b < R2) W (arrL m) v5) (b5 : u.nm.size ≤ maxLen) (hc : pre ≠ [] → cmpR (u, arrL m) x < 0) =>
    show PP w0 S g bf br bl V h l (.slice pa h.args.length ca) (.slice pl l.length cl) (pre ++ [ns]) W ∧ Rw W g V ns ∧ LigY.Lt (fun b => b = bl ∨ b = bf) w W from
    ⟨⟨k0.trans (k.toBelow hz0 fun i hi => by rcases hi with rfl | rfl <;> omega), by omega, k.has hbr (by omega), by
        have e : (!(pre ++ [ns]).isEmpty) = true := by cases pre <;> simp
        rw [e]; exact b1, (u, arrL m), q5, d5, v5, b2, b3.weaken (fun b hb => ⟨by omega, by omega, by omega⟩), b4.wide (fun b hb => ⟨by omega, by omega, by omega⟩), b5, fun _ => by
        rw [List.map_append, List.map_cons, List.map_nil, EC.out]
        by_cases hpre : pre = []
        · subst hpre
          refine ⟨by simp, fun y hy => ?_⟩
          obtain rfl : y = (u, arrL m) := by simpa using hy
          have := (r_zero (u, arrL m) (u, arrL m)).2 rfl
          omega
        · exact (least_snoc (hle hpre)).1 (hc hpre)⟩, k.has hR (by omega), k⟩)
  have CQ := Lib.hid (fun (W : World) (k : Below w.heap.size w W) (sv v5 : Value) (hs : SlIn (· < W.heap.size) W u.args sv) (hl5 : LIn (· < W.heap.size) W (arrL m) v5) (hn5 : u.nm.size ≤ maxLen) (w4 : World) (g4 : Gr W w4) =>
    cmpr_any u x.1 (arrL m) x.2 W.heap.size w4 sv (.slice q x.1.args.length d) v5 (.slice xp x.2.length xc) g4.size (hs.gr g4 (Nat.le_refl _)) (((XK.out w4 (Lt.of (next0 k g4.1))).1).weaken fun b hb => Nat.lt_of_lt_of_le hb.2.1 k.size) hn5 hnx (hl5.keep fun b o hb => g4.cell hb) (((XK.out w4 (Lt.of (next0 k g4.1))).2).wide fun b hb => Nat.lt_of_lt_of_le hb.2.1 k.size))
  have FP : Hid ((!pre.isEmpty) = false → pre = []) := Lib.hid (by cases pre <;> simp)
  have FN : Hid ((!pre.isEmpty) = true → pre ≠ []) := Lib.hid (by cases pre <;> simp)
  have HBR := Lib.hid hbr
  have HBF := Lib.hid hbf
  have HBL := Lib.hid hbl
  have HCG : Hid (0 < cmpT u x.1 → ¬ cmpR (u, arrL m) x < 0) := Lib.hid (fun hc => cmp_gt (y := x.1) (k := x.2) hc)
  have HZZ : Hid ((x.1, x.2) = x) := Lib.hid rfl
  clear hsx hlx hnx hle hR hns h100 hVn hsrt hV1 hz hzl hnm hll k0 hbr hbf hbl hz0
  generalize hf : (!pre.isEmpty) = f at *
  generalize hc : cmpT u x.1 = c at *
  have HF := Lib.hid hf
  clear hf hc EC XK HZZ
  generalize hR' : cmpR (u, arrL m) x = z at *
  have HR' := Lib.hid hR'
  clear hR'
  unfold RepR at CA
  unfold RuO at CR
  generalize x.1.nm = xn at *
  generalize x.1.args.length = xa at *
  generalize x.2.length = xl at *
  generalize hun : u.nm = un at *
  have HUN := Lib.hid hun
  generalize hua : u.args.length = ua at *
  have HUA := Lib.hid hua
  generalize hln : l.length = ln at *
  generalize hah : h.args.length = ah at *
  have HLN := Lib.hid hln
  have HAH := Lib.hid hah
  clear hun hua hln hah
  obtain ⟨K, hK⟩ : ∃ K : Bool, K = (f && decide (0 < c)) := ⟨_, rfl⟩
  have HK := Lib.hid hK
  clear hK
  obtain ⟨a1, a2, a3, a4, a5, a6, a7⟩ := UnpP.has3 HBL.out
  obtain ⟨b1, b2, b3, b4, b5, b6, b7⟩ := UnpP.has3 HBR.out
  have c1 : w.cell? ⟨bf, 0, none⟩ = some (.bool f) := HBF.out.cell 0
  go_enter Tryz.func35, Tryz.ntmps35
  go_upto_region 0 with fail
  go_cut [16] (fun s16 wx => s16 = .bool K ∧ Hid (Below w.heap.size w wx))
  case first =>
    cases f
    · have hK := HK.out
      rw [Bool.false_and] at hK
      subst hK
      go_quiet (fail)
      go_wp2_with fail
      go_meet
      exact ⟨rfl, Lib.hid (below_drewN (Below.refl _ _) _)⟩
    · have hK := HK.out
      rw [Bool.true_and] at hK
      subst hK
      go_region_with (first
        | (go_at_call 36; refine (CA.out _ (by first | exact Below.refl _ _ | exact (Below.refl _ _).drew | exact below_drewN (Below.refl _ _) _)).mono ?_; rintro e w3 ⟨q3, d3, rfl, hS3, hn3, k3⟩; have K3 : Hid (Below w.heap.size w w3) := Lib.hid (by first | exact k3 | exact next0 (Below.refl _ _).drew k3 | exact next0 (below_drewN (Below.refl _ _) _) k3); have S3 := Lib.hid (hS3.weaken (ok' := (· < w3.heap.size)) fun b hb => hb.2); have N3 := Lib.hid hn3; clear hS3 hn3 k3; obtain ⟨z1, z2, z3, z4, z5, z6, z7⟩ := UnpP.has3 (HBL.out.step0 K3.out))
        | (go_at_call 27; refine (CC.out w3 K3.out _ S3.out N3.out _ (by first | exact Gr.refl _ | exact Gr.drew _ | exact Gr.drewN _ _)).mono ?_; rintro e w4 ⟨rfl, g4⟩; have K4 : Hid (Below w.heap.size w w4) := Lib.hid (by first | exact next0 K3.out g4.1 | exact next0 K3.out.drew g4.1 | exact next0 (below_drewN K3.out _) g4.1); clear g4))
      all_goals
        go_wp2_with fail
        go_meet
        exact ⟨rfl, K4⟩
  case rest =>
    obtain ⟨rfl, KC⟩ := hcut
    clear a1 a2 a3 a4 a5 a6 a7 b1 b2 b3 b4 b5 b6 b7 c1 CA CC
    cases K
    · clear HCG
      obtain ⟨b1, b2, b3, b4, b5, b6, b7⟩ := UnpP.has3 (HBR.out.step0 KC.out)
      go_wp2_with fail
      refine (CR.out _ KC.out).mono ?_
      rintro e w2 ⟨q2, d2, v2, R, L, rfl, hR1, hR2, hS2, hLm, hO2, hn2, k2⟩
      obtain ⟨p2, c2, rfl⟩ := hO2.form
      have hzc := KC.out.size
      have K2 := Lib.hid (next0 KC.out k2)
      have OW : Hid (∀ b, (Value.slice p2 L.length c2).ownBlock = some b → R ≤ b ∧ b < w2.heap.size) := Lib.hid hO2.1.lt
      have S2 : Hid (SlIn (fun b => w.heap.size ≤ b ∧ b < R) w2 u.args (.slice q2 ua d2)) := Lib.hid (hS2.weaken fun b hb => hb.elim False.elim fun h => ⟨by omega, h.2⟩)
      have N2 := Lib.hid hn2
      have LM := Lib.hid hLm
      have KW2 : w.heap.size ≤ w2.heap.size := K2.out.size
      have hwR : w.heap.size ≤ R := by omega
      have hll2 : L.length ≤ 1000 := by have := congrArg List.length hLm; rw [List.length_map] at this; have := ML.out; omega
      obtain ⟨W3, hW3⟩ : ∃ z, z = w2.alloc (.cells #[.string un, .slice q2 ua d2, .slice p2 L.length c2] 27) := ⟨_, rfl⟩
      have J3 : Hid (Below w2.heap.size w2 W3) := Lib.hid (by rw [hW3]; exact below_alloc _ _)
      have H3 : Hid (Has W3 w2.heap.size #[.string un, .slice q2 ua d2, .slice p2 L.length c2]) := Lib.hid (by rw [hW3]; exact Has.new _ _ _)
      have KA := Lib.hid (arranged_any (fun _ => False) R w2 W3 L _ hO2 J3.out hll2)
      unfold Arr at KA
      have K3 := Lib.hid (next0 K2.out J3.out)
      clear hS2 hLm hO2 hn2 k2 b1 b2 b3 b4 b5 b6 b7 CR hR1 hzc hll2
      generalize L.length = Ln at *
      obtain ⟨x1, x2, x3, x4, x5, x6, x7⟩ := UnpP.has3 H3.out
      go_upto_region 2 with fail
      rw [← hW3]
      clear hW3
      go_wp2_with fail
      refine KA.out.mono ?_
      rintro e w4 ⟨p4, c4, C, rfl, hCm, hCr, hLt⟩
      have hs3 : w2.heap.size + 1 ≤ W3.heap.size := H3.out.lt
      have P4 := Lib.hid hLt
      have X4 : Hid (LigY.Lt (fun b => b = bl ∨ b = bf) w w4) := Lib.hid (lt_trans2 (Lt.of K3.out) hLt fun i hi => Or.inr (by have := (OW.out i hi).1; omega))
      have K4 : Hid (Below w.heap.size w w4) := Lib.hid (K3.out.trans (hLt.toBelow (by omega) fun i hi => by have := (OW.out i hi).1; omega))
      have H4 := Lib.hid (hLt.has H3.out (fun e => by have := (OW.out _ e).2; omega))
      have CM : Hid (C.map (·.1) = arrL m) := Lib.hid (by rw [hCm, LM.out])
      have CW : Hid (RowG KL (fun b => w.heap.size ≤ b ∧ b < w2.heap.size) w4 C (.slice p4 C.length c4)) := Lib.hid (hCr.wide fun b hb => hb.elim False.elim fun h => ⟨by omega, h.2⟩)
      have D4 := Lib.hid (S2.out.frame (w' := w4) fun b o hb => (hLt.cell (g := b) (by omega) (fun e => by have := (OW.out b e).1; omega)).trans (J3.out.cell (p := ⟨b, o, none⟩) (show b < w2.heap.size by omega)))
      clear hCm hCr hLt KA x1 x2 x3 x4 x5 x6 x7 J3 H3
      obtain ⟨W5, hW5⟩ : ∃ z, z = w4.setCell ⟨w2.heap.size, 2, none⟩ (.slice p4 C.length c4) := ⟨_, rfl⟩
      have KW5 : Hid (Below w.heap.size w W5) := Lib.hid (by rw [hW5]; exact K4.out.setCell (p := ⟨w2.heap.size, 2, none⟩) KW2 _)
      have B5W5 : Hid (Has W5 w2.heap.size #[.string un, .slice q2 ua d2, .slice p4 C.length c4]) := Lib.hid (by rw [hW5]; exact H4.out.set 2 _)
      have SW5 : w2.heap.size ≤ W5.heap.size := by have := B5W5.out.lt; omega
      have DW5 : Hid (SlIn (fun b => w.heap.size ≤ b ∧ b < w2.heap.size) W5 u.args (.slice q2 ua d2)) := Lib.hid ((D4.out.frame (w' := W5) fun b o hb => by rw [hW5]; exact (World.cell?_setCell_far _ _ _ _ (by show w2.heap.size ≠ b; omega))).weaken fun b hb => ⟨hb.1, by omega⟩)
      have MW5 : Hid (LIn (fun b => w.heap.size ≤ b ∧ b < w2.heap.size) W5 (arrL m) (.slice p4 C.length c4)) := Lib.hid ⟨C, CM.out, CW.out.keep fun b o hb => by rw [hW5]; exact (World.cell?_setCell_far _ _ _ _ (by show w2.heap.size ≠ b; omega))⟩
      have FW5 := Lib.hid (HBF.out.step0 KW5.out)
      have LW5 := Lib.hid (HBL.out.step0 KW5.out)
      obtain ⟨x1, x2, x3, x4, x5, x6, x7⟩ := UnpP.has3 H4.out
      go_upto_region 3 with fail
      rw [← hW5]
      clear hW5 x1 x2 x3 x4 x5 x6 x7 D4 CM CW H4 X4 K4 P4
      cases f
      · have HP0 := Lib.hid (FP.out (by first | rfl | trivial))
        obtain ⟨W6, hW6⟩ : ∃ z, z = (((W5.setCell ⟨bl, 0, none⟩ (.string un)).setCell ⟨bl, 1, none⟩ (.slice q2 ua d2)).setCell ⟨bl, 2, none⟩ (.slice p4 C.length c4)).setCell ⟨bf, 0, none⟩ (.bool true) := ⟨_, rfl⟩
        have X6 : Hid (LigY.Lt (fun b => b = bl ∨ b = bf) w W6) := Lib.hid (by rw [hW6]; exact ((((Lt.of KW5.out).put (p := ⟨bl, 0, none⟩) (Or.inl (Or.inl rfl)) _).put (p := ⟨bl, 1, none⟩) (Or.inl (Or.inl rfl)) _).put (p := ⟨bl, 2, none⟩) (Or.inl (Or.inl rfl)) _).put (p := ⟨bf, 0, none⟩) (Or.inl (Or.inr rfl)) _)
        have P6 : Hid (LigY.Lt (fun b => b = bl ∨ b = bf) W5 W6) := Lib.hid (by rw [hW6]; exact ((((Lt.of (Below.refl _ _)).put (p := ⟨bl, 0, none⟩) (Or.inl (Or.inl rfl)) _).put (p := ⟨bl, 1, none⟩) (Or.inl (Or.inl rfl)) _).put (p := ⟨bl, 2, none⟩) (Or.inl (Or.inl rfl)) _).put (p := ⟨bf, 0, none⟩) (Or.inl (Or.inr rfl)) _)
        have HBL6 := UnmH.put3 LW5.out (.string un) (.slice q2 ua d2) (.slice p4 C.length c4)
        have B6 : Hid (Has W6 bf #[.bool true]) := Lib.hid (by rw [hW6]; exact (((FW5.out.far (p := ⟨bl, 0, none⟩) n2 _).far (p := ⟨bl, 1, none⟩) n2 _).far (p := ⟨bl, 2, none⟩) n2 _).set 0 _)
        have B7 : Hid (Has W6 bl #[.string un, .slice q2 ua d2, .slice p4 C.length c4]) := Lib.hid (by rw [hW6]; exact HBL6.far (p := ⟨bf, 0, none⟩) (fun e => n2 e.symm) _)
        have E6 : Hid (PP w0 S g bf br bl V h l (.slice pa ah ca) (.slice pl ln cl) (pre ++ [ns]) W6 ∧ Rw W6 g V ns ∧ LigY.Lt (fun b => b = bl ∨ b = bf) w W6) := Lib.hid (FS.out W6 X6.out q2 d2 _ w2.heap.size KW2 (Nat.le_trans SW5 (P6.out.size)) B6.out B7.out
          ((DW5.out.frame fun b o hb => P6.out.cell (Nat.lt_of_lt_of_le hb.2 SW5) (by have := hb.1; omega)).weaken fun b hb => hb)
          (MW5.out.keep fun b o hb => P6.out.cell (Nat.lt_of_lt_of_le hb.2 SW5) (by have := hb.1; omega)) N2.out (fun e => absurd HP0.out e))
        obtain ⟨f1, f2, f3, f4, f5, f6, f7⟩ := UnpP.has3 LW5.out
        obtain ⟨o1, o2, o3, o4, o5, o6, o7⟩ := UnpP.has3 B5W5.out
        have v1 : W5.cell? ⟨bf, 0, none⟩ = some (.bool false) := FW5.out.cell 0
        have v2 : W5.frozen? ⟨bf, 0, none⟩ = false := FW5.out.free 0
        have v3 : bf < W5.heap.size := FW5.out.lt
        have HW6 := Lib.hid hW6
        clear X6 P6 HBL6 B6 B7 hW6
        go_wp2_with fail
        refine bodyPost_end (v := .tuple #[]) (by simp [results, Tryz.results35, go_sem]) rfl ⟨rfl, ?_⟩
        rw [← HW6.out]
        exact E6.out
      · have CQ5 := Lib.hid (CQ.out W5 KW5.out _ _ (DW5.out.weaken fun b hb => Nat.lt_of_lt_of_le hb.2 SW5) (MW5.out.wide fun b hb => Nat.lt_of_lt_of_le hb.2 SW5) N2.out W5 (Gr.refl _))
        obtain ⟨f1, f2, f3, f4, f5, f6, f7⟩ := UnpP.has3 LW5.out
        obtain ⟨o1, o2, o3, o4, o5, o6, o7⟩ := UnpP.has3 B5W5.out
        have v1 : W5.cell? ⟨bf, 0, none⟩ = some (.bool true) := FW5.out.cell 0
        have v2 : W5.frozen? ⟨bf, 0, none⟩ = false := FW5.out.free 0
        have v3 : bf < W5.heap.size := FW5.out.lt
        go_wp2_with fail
        refine CQ5.out.mono ?_
        rintro e w7 ⟨rfl, g7⟩
        have Kw7 := Lib.hid (next0 KW5.out g7.1)
        have Lw7 := Lib.hid (LW5.out.step0 g7.1)
        have B5w7 := Lib.hid (B5W5.out.step0 g7.1)
        have Fw7 := Lib.hid (FW5.out.step0 g7.1)
        have Sw7 : w2.heap.size ≤ w7.heap.size := Nat.le_trans SW5 g7.1.size
        have Dw7 := Lib.hid (DW5.out.frame (w' := w7) fun b o hb => g7.cell (Nat.lt_of_lt_of_le hb.2 SW5))
        have Mw7 := Lib.hid (MW5.out.keep (w' := w7) fun b o hb => g7.cell (Nat.lt_of_lt_of_le hb.2 SW5))
        clear g7 f1 f2 f3 f4 f5 f6 f7 o1 o2 o3 o4 o5 o6 o7 v1 v2 v3 CQ5 KW5 LW5 B5W5 FW5 SW5 DW5 MW5
        by_cases hz : z < 0
        · have hz1 : decide (z < 0) = true := by simpa using hz
          obtain ⟨W6, hW6⟩ : ∃ z, z = (((w7.setCell ⟨bl, 0, none⟩ (.string un)).setCell ⟨bl, 1, none⟩ (.slice q2 ua d2)).setCell ⟨bl, 2, none⟩ (.slice p4 C.length c4)).setCell ⟨bf, 0, none⟩ (.bool true) := ⟨_, rfl⟩
          have X6 : Hid (LigY.Lt (fun b => b = bl ∨ b = bf) w W6) := Lib.hid (by rw [hW6]; exact ((((Lt.of Kw7.out).put (p := ⟨bl, 0, none⟩) (Or.inl (Or.inl rfl)) _).put (p := ⟨bl, 1, none⟩) (Or.inl (Or.inl rfl)) _).put (p := ⟨bl, 2, none⟩) (Or.inl (Or.inl rfl)) _).put (p := ⟨bf, 0, none⟩) (Or.inl (Or.inr rfl)) _)
          have P6 : Hid (LigY.Lt (fun b => b = bl ∨ b = bf) w7 W6) := Lib.hid (by rw [hW6]; exact ((((Lt.of (Below.refl _ _)).put (p := ⟨bl, 0, none⟩) (Or.inl (Or.inl rfl)) _).put (p := ⟨bl, 1, none⟩) (Or.inl (Or.inl rfl)) _).put (p := ⟨bl, 2, none⟩) (Or.inl (Or.inl rfl)) _).put (p := ⟨bf, 0, none⟩) (Or.inl (Or.inr rfl)) _)
          have HBL6 := UnmH.put3 Lw7.out (.string un) (.slice q2 ua d2) (.slice p4 C.length c4)
          have B6 : Hid (Has W6 bf #[.bool true]) := Lib.hid (by rw [hW6]; exact (((Fw7.out.far (p := ⟨bl, 0, none⟩) n2 _).far (p := ⟨bl, 1, none⟩) n2 _).far (p := ⟨bl, 2, none⟩) n2 _).set 0 _)
          have B7 : Hid (Has W6 bl #[.string un, .slice q2 ua d2, .slice p4 C.length c4]) := Lib.hid (by rw [hW6]; exact HBL6.far (p := ⟨bf, 0, none⟩) (fun e => n2 e.symm) _)
          have E6 : Hid (PP w0 S g bf br bl V h l (.slice pa ah ca) (.slice pl ln cl) (pre ++ [ns]) W6 ∧ Rw W6 g V ns ∧ LigY.Lt (fun b => b = bl ∨ b = bf) w W6) := Lib.hid (FS.out W6 X6.out q2 d2 _ w2.heap.size KW2 (Nat.le_trans Sw7 (P6.out.size)) B6.out B7.out
            ((Dw7.out.frame fun b o hb => P6.out.cell (Nat.lt_of_lt_of_le hb.2 Sw7) (by have := hb.1; omega)).weaken fun b hb => hb)
            (Mw7.out.keep fun b o hb => P6.out.cell (Nat.lt_of_lt_of_le hb.2 Sw7) (by have := hb.1; omega)) N2.out (fun _ => by exact hz))
          obtain ⟨f1, f2, f3, f4, f5, f6, f7⟩ := UnpP.has3 Lw7.out
          obtain ⟨o1, o2, o3, o4, o5, o6, o7⟩ := UnpP.has3 B5w7.out
          have v1 : w7.cell? ⟨bf, 0, none⟩ = some (.bool true) := Fw7.out.cell 0
          have v2 : w7.frozen? ⟨bf, 0, none⟩ = false := Fw7.out.free 0
          have v3 : bf < w7.heap.size := Fw7.out.lt
          have HW6 := Lib.hid hW6
          clear X6 P6 HBL6 B6 B7 hW6
          go_wp2_with fail
          refine bodyPost_end (v := .tuple #[]) (by simp [results, Tryz.results35, go_sem]) rfl ⟨rfl, ?_⟩
          rw [← HW6.out]
          exact E6.out
        · have hz1 : decide (z < 0) = false := by simpa using hz
          have E9 := Lib.hid (FK.out w7 Kw7.out (FN.out (by first | rfl | trivial)) (by omega))
          clear hz
          go_wp2_with fail
          refine bodyPost_end (v := .tuple #[]) (by simp [results, Tryz.results35, go_sem]) rfl ⟨rfl, E9.out⟩
    · have hK := HK.out
      have hft : f = true := by cases f <;> simp at hK ⊢
      have hcp : 0 < c := by subst hft; simpa using hK
      have E9 : Hid (PP w0 S g bf br bl V h l (.slice pa ah ca) (.slice pl ln cl) (pre ++ [ns]) wc ∧ Rw wc g V ns ∧ LigY.Lt (fun b => b = bl ∨ b = bf) w wc) := Lib.hid (FK.out wc KC.out (FN.out hft) (HCG.out hcp))
      clear hK hft hcp
      go_wp2_with fail
      refine bodyPost_ret (v := .tuple #[]) (by simp [results, Tryz.results35, go_sem]) rfl ⟨rfl, E9.out⟩
end NosE
end Go.Proofs.YtdkpflojdnkbnaaGreatDoor
/- Printable rules with equal texts are equal. No conditions. -/
namespace Go.Proofs.YtdkpflojdnkbnaaGreatDoor
open Go
namespace NosT
open LexM TermM UniM UniK NorB NorC NorD
/-- None of the bytes that end names. -/
def okb (b : UInt8) : Prop := b ≠ 40 ∧ b ≠ 41 ∧ b ≠ 44 ∧ b ≠ 32 ∧ b ≠ 46
def okl (l : List UInt8) : Prop := ∀ b ∈ l, okb b
theorem ok_of {p : Int → Bool} (hp : ∀ b : UInt8, p b.toNat = true → okb b) {l : List UInt8} (h : allB p l = true) : okl l := by
  intro b hb
  unfold allB at h
  exact hp b (List.all_eq_true.1 h b hb)
theorem ok_nat {b : UInt8} (h : b.toNat ≠ 40 ∧ b.toNat ≠ 41 ∧ b.toNat ≠ 44 ∧ b.toNat ≠ 32 ∧ b.toNat ≠ 46) : okb b :=
  ⟨fun e => h.1 (by rw [e]; rfl), fun e => h.2.1 (by rw [e]; rfl), fun e => h.2.2.1 (by rw [e]; rfl), fun e => h.2.2.2.1 (by rw [e]; rfl), fun e => h.2.2.2.2 (by rw [e]; rfl)⟩
theorem ok_name {l : List UInt8} (h : nameL l = true) : okl l ∧ l.length ≤ 16 := by
  unfold nameL at h
  simp only [Bool.and_eq_true, decide_eq_true_eq] at h
  refine ⟨ok_of (p := nmB) (fun b hb => ok_nat ?_) h.2, h.1.1.1⟩
  unfold nmB loB dgB at hb
  simp at hb
  omega
theorem ok_var {l : List UInt8} (h : varL l = true) : okl l ∧ l.length ≤ 16 := by
  unfold varL at h
  simp only [Bool.and_eq_true, decide_eq_true_eq] at h
  refine ⟨ok_of (p := vrB) (fun b hb => ok_nat ?_) h.2, h.1.1⟩
  unfold vrB loB upB dgB at hb
  simp at hb
  omega
theorem ok_num {l : List UInt8} (h : isNum l = true) : okl l ∧ l.length ≤ 16 := by
  unfold isNum at h
  simp only [Bool.and_eq_true, decide_eq_true_eq] at h
  refine ⟨ok_of (p := dgB) (fun b hb => ok_nat ?_) h.2, by omega⟩
  unfold dgB at hb
  simp at hb
  omega
theorem valid_parts {g : Bool} {d : Nat} {n : ByteArray} {l : List Tm} (h : validT g (d + 1) (.mk n l) = true) : okl n.data.toList ∧ n.data.toList.length ≤ 16 ∧ ∀ t ∈ l, validT g d t = true := by
  simp only [validT] at h
  split at h
  · rename_i he
    have hl : l = [] := by simpa using he
    subst hl
    have hk : okl n.data.toList ∧ n.data.toList.length ≤ 16 := by
      unfold conB numB nameB varB at h
      simp only [Bool.or_eq_true, Bool.and_eq_true] at h
      rcases h with (h | h) | ⟨_, h⟩
      · exact ok_num h
      · exact ok_name h
      · exact ok_var h
    exact ⟨hk.1, hk.2, fun t ht => by simp at ht⟩
  · simp only [Bool.and_eq_true, decide_eq_true_eq] at h
    have hk := ok_name (l := n.data.toList) h.1.2
    exact ⟨hk.1, hk.2, fun t ht => List.all_eq_true.1 h.2 t ht⟩
/-- A rest that begins with a byte that ends names, or is nothing. -/
def stop (r : List UInt8) : Prop := ∀ b x, r = b :: x → b = 40 ∨ b = 41 ∨ b = 44 ∨ b = 32 ∨ b = 46
theorem split_name : ∀ (n m x y : List UInt8), okl n → okl m → stop x → stop y → n ++ x = m ++ y → n = m ∧ x = y
  | [], [], x, y, _, _, _, _, h => ⟨rfl, h⟩
  | [], b :: m, x, y, _, hm, hx, _, h => by
    have := hx b (m ++ y) (by simpa using h)
    have hb := hm b (by simp)
    unfold okb at hb
    rcases this with e | e | e | e | e <;> simp [e] at hb
  | a :: n, [], x, y, hn, _, _, hy, h => by
    have := hy a (n ++ x) (by simpa using h.symm)
    have hb := hn a (by simp)
    unfold okb at hb
    rcases this with e | e | e | e | e <;> simp [e] at hb
  | a :: n, b :: m, x, y, hn, hm, hx, hy, h => by
    simp only [List.cons_append, List.cons.injEq] at h
    obtain ⟨h1, h2⟩ := split_name n m x y (fun c hc => hn c (by simp [hc])) (fun c hc => hm c (by simp [hc])) hx hy h.2
    exact ⟨by rw [h.1, h1], h2⟩
/-- What may follow an argument: ',' or ')', or nothing. -/
def stopA (r : List UInt8) : Prop := ∀ b x, r = b :: x → b = 41 ∨ b = 44 ∨ b = 32 ∨ b = 46
theorem stop_of {r : List UInt8} (h : stopA r) : stop r := fun b x e => Or.inr (h b x e)
theorem stopA_tail (l : List Tm) (r : List UInt8) : stopA (tailT l ++ 41 :: r) := by
  intro b x e
  cases l with
  | nil => simp [tailT] at e; exact Or.inl e.1.symm
  | cons a l => simp [tailT] at e; exact Or.inr (Or.inl e.1.symm)
theorem text_inj (g : Bool) : ∀ (d : Nat) (a b : Tm) (r s : List UInt8), validT g d a = true → validT g d b = true → stopA r → stopA s → textT a ++ r = textT b ++ s → a = b ∧ r = s
  | 0, a, b, r, s, ha, _, _, _, _ => by simp [validT] at ha
  | d + 1, .mk n l, .mk m k, r, s, ha, hb, hr, hs, h => by
    obtain ⟨a1, _, a3⟩ := valid_parts ha
    obtain ⟨b1, _, b3⟩ := valid_parts hb
    simp only [textT, List.append_assoc] at h
    have args : ∀ (l k : List Tm) (r s : List UInt8), (∀ t ∈ l, validT g d t = true) → (∀ t ∈ k, validT g d t = true) → tailT l ++ 41 :: r = tailT k ++ 41 :: s → l = k ∧ r = s := by
      intro l
      induction l with
      | nil =>
        intro k r s _ _ h
        cases k with
        | nil => simp [tailT] at h; exact ⟨rfl, h⟩
        | cons b k => simp [tailT] at h
      | cons a l ih =>
        intro k r s hl hk h
        cases k with
        | nil => simp [tailT] at h
        | cons b k =>
          simp only [tailT, List.cons_append, List.append_assoc, List.cons.injEq, true_and] at h
          obtain ⟨h1, h2⟩ := text_inj g d a b _ _ (hl a (by simp)) (hk b (by simp)) (stopA_tail l r) (stopA_tail k s) h
          obtain ⟨h3, h4⟩ := ih k r s (fun t ht => hl t (by simp [ht])) (fun t ht => hk t (by simp [ht])) h2
          exact ⟨by rw [h1, h3], h4⟩
    have st : ∀ (l : List Tm) (r : List UInt8), stopA r → stop ((if l.isEmpty then [] else 40 :: ((tailT l).drop 1 ++ [41])) ++ r) := by
      intro l r hr b x e
      split at e
      · exact stop_of hr b x (by simpa using e)
      · simp at e; exact Or.inl e.1.symm
    obtain ⟨h1, h2⟩ := split_name _ _ _ _ a1 b1 (st l r hr) (st k s hs) h
    have hnm : n = m := bytes_inj h1
    subst hnm
    cases l with
    | nil =>
      cases k with
      | nil => simp at h2; exact ⟨rfl, h2⟩
      | cons b k =>
        simp at h2
        have := hr 40 _ h2
        simp at this
    | cons a l =>
      cases k with
      | nil =>
        simp at h2
        have := hs 40 _ h2.symm
        simp at this
      | cons b k =>
        simp [tailT] at h2
        obtain ⟨h3, h4⟩ := text_inj g d a b _ _ (a3 a (by simp)) (b3 b (by simp)) (stopA_tail l r) (stopA_tail k s) (by simpa using h2)
        obtain ⟨h5, h6⟩ := args l k r s (fun t ht => a3 t (by simp [ht])) (fun t ht => b3 t (by simp [ht])) h4
        exact ⟨by rw [h3, h5], h6⟩
theorem at_valid {t : Tm} (h : atB t = true) : nameL t.nm.data.toList = true ∧ validT false 4 t = true := by
  unfold atB at h
  simpa using h
theorem name_not : nameL [110, 111, 116] = false := by decide
theorem text_form (t : Tm) : ∃ r, textT t = t.nm.data.toList ++ r ∧ ∀ s, stopA s → stop (r ++ s) := by
  cases t with
  | mk n l =>
    refine ⟨if l.isEmpty then [] else 40 :: ((tailT l).drop 1 ++ [41]), rfl, fun s hs b x e => ?_⟩
    split at e
    · exact stop_of hs b x (by simpa using e)
    · simp at e; exact Or.inl e.1.symm
theorem not_text {t : Tm} (ht : atB t = true) {r s : List UInt8} (hr : stopA r) (h : textT t ++ r = [110, 111, 116, 32] ++ s) : False := by
  obtain ⟨h1, h2⟩ := at_valid ht
  obtain ⟨q, e, hq⟩ := text_form t
  rw [e, List.append_assoc] at h
  have := split_name t.nm.data.toList [110, 111, 116] (q ++ r) (32 :: s) (ok_name h1).1 (by intro b hb; simp at hb; rcases hb with rfl | rfl | rfl <;> simp [okb]) (hq r hr) (fun b x e => by simp at e; exact Or.inr (Or.inr (Or.inr (Or.inl e.1.symm)))) (by simpa using h)
  rw [this.1, name_not] at h1
  cases h1
theorem lit_inj {x y : Lt} (hx : atB x.2 = true) (hy : atB y.2 = true) {r s : List UInt8} (hr : stopA r) (hs : stopA s) (h : litX x ++ r = litX y ++ s) : x = y ∧ r = s := by
  obtain ⟨b, t⟩ := x
  obtain ⟨c, u⟩ := y
  unfold litX at h
  have same : textT t ++ r = textT u ++ s → t = u ∧ r = s := fun h => text_inj false 4 t u r s (at_valid hx).2 (at_valid hy).2 hr hs h
  cases b <;> cases c
  · obtain ⟨h1, h2⟩ := same (by simpa using h)
    exact ⟨by rw [h1], h2⟩
  · exact (not_text hx hr (s := textT u ++ s) (by simpa using h)).elim
  · exact (not_text hy hs (s := textT t ++ r) (by simpa using h.symm)).elim
  · obtain ⟨h1, h2⟩ := same (by simpa using h)
    exact ⟨by rw [h1], h2⟩
theorem tail_stop (l : List Lt) : stopA (Lib.joinTail [32, 97, 110, 100, 32] (l.map litX) ++ [46]) := by
  intro b x e
  cases l with
  | nil => simp [Lib.joinTail] at e; exact Or.inr (Or.inr (Or.inr e.1.symm))
  | cons a l => simp [Lib.joinTail] at e; exact Or.inr (Or.inr (Or.inl e.1.symm))
theorem tail_inj : ∀ (l m : List Lt), (∀ x ∈ l, atB x.2 = true) → (∀ x ∈ m, atB x.2 = true) → Lib.joinTail [32, 97, 110, 100, 32] (l.map litX) ++ [46] = Lib.joinTail [32, 97, 110, 100, 32] (m.map litX) ++ [46] → l = m
  | [], [], _, _, _ => rfl
  | [], y :: m, _, _, h => by simp [Lib.joinTail] at h
  | x :: l, [], _, _, h => by simp [Lib.joinTail] at h
  | x :: l, y :: m, hl, hm, h => by
    have h' : litX x ++ (Lib.joinTail [32, 97, 110, 100, 32] (l.map litX) ++ [46]) = litX y ++ (Lib.joinTail [32, 97, 110, 100, 32] (m.map litX) ++ [46]) := by simpa [Lib.joinTail] using h
    obtain ⟨h1, h2⟩ := lit_inj (hl x List.mem_cons_self) (hm y List.mem_cons_self) (tail_stop l) (tail_stop m) h'
    rw [h1, tail_inj l m (fun z hz => hl z (List.mem_cons_of_mem _ hz)) (fun z hz => hm z (List.mem_cons_of_mem _ hz)) h2]
theorem rule_inj {r s : Rl} (hr : vlB r = true) (hs : vlB s = true) (h : ruleX r = ruleX s) : r = s := by
  obtain ⟨t, l⟩ := r
  obtain ⟨u, m⟩ := s
  unfold vlB at hr hs
  simp only [Bool.and_eq_true, decide_eq_true_eq, List.all_eq_true] at hr hs
  unfold ruleX at h
  have st : ∀ l : List Lt, stopA ((if l.isEmpty then [] else [32, 105, 102, 32] ++ bodyX l) ++ [46]) := by
    intro l b x e
    cases l with
    | nil => simp at e; exact Or.inr (Or.inr (Or.inr e.1.symm))
    | cons a l => simp at e; exact Or.inr (Or.inr (Or.inl e.1.symm))
  obtain ⟨h1, h2⟩ := text_inj false 4 t u _ _ (at_valid hr.2.1).2 (at_valid hs.2.1).2 (st l) (st m) (by simpa using h)
  subst h1
  cases l with
  | nil =>
    cases m with
    | nil => rfl
    | cons y m => simp at h2
  | cons x l =>
    cases m with
    | nil => simp at h2
    | cons y m =>
      have h' : litX x ++ (Lib.joinTail [32, 97, 110, 100, 32] (l.map litX) ++ [46]) = litX y ++ (Lib.joinTail [32, 97, 110, 100, 32] (m.map litX) ++ [46]) := by
        simpa [bodyX, Lib.join_cons] using h2
      obtain ⟨h3, h4⟩ := lit_inj (hr.2.2 x List.mem_cons_self) (hs.2.2 y List.mem_cons_self) (tail_stop l) (tail_stop m) h'
      rw [h3, tail_inj l m (fun z hz => hr.2.2 z (List.mem_cons_of_mem _ hz)) (fun z hz => hs.2.2 z (List.mem_cons_of_mem _ hz)) h4]
end NosT
end Go.Proofs.YtdkpflojdnkbnaaGreatDoor
/- Rule of the code: a rule's normal form, or the error. No conditions but the head's name of an int's length. -/
namespace Go.Proofs.YtdkpflojdnkbnaaGreatDoor
open Go Go.RowKit
namespace NosF
open Kit LexM TermM TermI TermN TermU UniK UniM UniA UniE UnpP NorB NorC NorM NorP NorQ NorR NorJ NorK NosD NosS NosQ NosK NosE LigY
def szd : Nat → Nat
  | 0 => 0
  | d + 1 => 1 + 4 * szd d
theorem sizeL_le {m : Nat} : ∀ (l : List Tm), (∀ t ∈ l, sizeT t ≤ m) → sizeL l ≤ l.length * m
  | [], _ => by simp [sizeL]
  | a :: l, h => by
    have h1 := h a List.mem_cons_self
    have h2 := sizeL_le l fun t ht => h t (List.mem_cons_of_mem _ ht)
    simp only [sizeL, List.length_cons, Nat.add_mul, Nat.one_mul]
    omega
theorem size_valid (g : Bool) : ∀ (d : Nat) (t : Tm), validT g d t = true → sizeT t ≤ szd d
  | 0, t, h => by simp [validT] at h
  | d + 1, .mk n l, h => by
    simp only [validT] at h
    split at h
    · rename_i he
      obtain rfl : l = [] := by simpa using he
      simp [sizeT, sizeL, szd]
    · simp only [Bool.and_eq_true, decide_eq_true_eq, List.all_eq_true] at h
      have h2 := sizeL_le (m := szd d) l fun t ht => size_valid g d t (h.2 t ht)
      have h3 : l.length * szd d ≤ 4 * szd d := Nat.mul_le_mul_right _ h.1.1
      simp only [sizeT, szd]
      omega
theorem vl_parts {r : Rl} (h : vlB r = true) : r.2.length ≤ 8 ∧ sizeT r.1 ≤ 85 ∧ ∀ x ∈ r.2, sizeT x.2 ≤ 85 := by
  unfold vlB at h
  simp only [Bool.and_eq_true, decide_eq_true_eq, List.all_eq_true] at h
  exact ⟨h.1, size_valid false 4 _ (NosT.at_valid h.2.1).2, fun x hx => size_valid false 4 _ (NosT.at_valid (h.2.2 x hx)).2⟩
theorem sum_le : ∀ (l : List Lt), (∀ x ∈ l, sizeT x.2 ≤ 85) → (l.map fun x => sizeT x.2).sum ≤ l.length * 85
  | [], _ => by simp
  | a :: l, h => by
    have h1 := h a List.mem_cons_self
    have h2 := sum_le l fun t ht => h t (List.mem_cons_of_mem _ ht)
    simp only [List.map_cons, List.sum_cons, List.length_cons]
    omega
theorem vl_szr {r : Rl} (h : vlB r = true) : szR r.1 r.2 ≤ 1000000 := by
  obtain ⟨h1, h2, h3⟩ := vl_parts h
  have := sum_le r.2 h3
  unfold szR
  omega
theorem vsr_size (r : Rl) : ∀ v ∈ VsR r, v.size ≤ 100 := fun v hv => by
  have h := ((vsr_mem r v).1 hv).1
  unfold varB at h
  have := (NosT.ok_var h).2
  have e : v.data.toList.length = v.size := by simp
  omega
theorem vis_ne (n : Nat) : vis n (namesV n) 0 ≠ [] := fun e => by
  have := vis_all n (namesV n) 0 (by simp [namesV]) (namesV n) (List.Perm.refl _) rfl
  rw [e] at this
  simp at this
theorem nf_of {r x : Rl} {n : Nat} (hn : (VsR r).length = n) (h5 : n ≤ 5) (h : LeastOf ((vis n (namesV n) 0).map (cand (VsR r) r.1 r.2)) x) : IsNF (VsR r) r x := by
  refine (nf_iff (vsr_vars r).1 ((vis n (namesV n) 0).map tms) (fun u => ?_)).2 ?_
  · rw [hn]
    exact vis_tms (by omega) u
  · rw [List.map_map]
    exact h
/-- The error of Rule. -/
def codeN (r : Rl) : Int := if vlB r = true then if 5 < (VsR r).length then 11 else 0 else 13
def zeroR : Rl := (.mk ⟨#[]⟩ [], [])
/-- What Rule answers. -/
def NfOf (r x : Rl) : Prop := (codeN r = 0 → IsNF (VsR r) r x) ∧ (codeN r ≠ 0 → x = zeroR)
theorem nf_det {r x y : Rl} (h : NfOf r x) (k : NfOf r y) : x = y := by
  by_cases e : codeN r = 0
  · exact nf_unique (h.1 e) (k.1 e)
  · rw [h.2 e, k.2 e]
/-- What a call leaves that hands out a rule and an error, all in new memory. -/
def NfR (r : Rl) (w : World) (e : Ending) (w' : World) : Prop :=
  ∃ (x : Rl) (q : Option Addr) (d : Nat) (v : Value), e = .returned (.tuple #[.agg #[.string x.1.nm, .slice q x.1.args.length d, v], .int .i64 (codeN r)]) ∧ NfOf r x ∧ SlIn (fun b => w.heap.size ≤ b ∧ b < w'.heap.size) w' x.1.args (.slice q x.1.args.length d) ∧ LIn (fun b => w.heap.size ≤ b ∧ b < w'.heap.size) w' x.2 v ∧ x.1.nm.size ≤ maxLen ∧ Below w.heap.size w w'
theorem nfr_zero {r : Rl} {w w' : World} {c : Int} (hc : codeN r = c) (h0 : c ≠ 0) (k : Below w.heap.size w w') : NfR r w (.returned (.tuple #[.agg #[.string ⟨#[]⟩, .slice none 0 0, .slice none 0 0], .int .i64 c])) w' :=
  ⟨zeroR, none, 0, .slice none 0 0, by rw [hc]; rfl, ⟨fun e => absurd (hc.symm.trans e) h0, fun _ => rfl⟩, SlIn.none _ _, LIn.nil _ _, Nat.zero_le _, k⟩
set_option maxRecDepth 100000 in
set_option maxHeartbeats 6400000 in
theorem rule_any (h : Tm) (l : List Lt) (B : Nat) (w : World) (hv lv : Value) (hB : B ≤ w.heap.size) (hh : SlIn (· < B) w h.args hv) (hl : LIn (· < B) w l lv) (hnm : h.nm.size ≤ maxLen) :
    Calls Tryz.prog 14 #[.agg #[.string h.nm, hv, lv]] w (NfR (h, l) w) := by
  obtain ⟨pa, ca, rfl⟩ := hh.form
  obtain ⟨pl, cl, rfl⟩ := hl.form
  have hmf : ∀ (fn : Fn) (first cap : Array Value) (w : World), (Instr.makeFunc fn first cap).run Tryz.prog w = .ok (.func fn first cap) w := fun _ _ _ _ => rfl
  obtain ⟨W2, hW2⟩ : ∃ W2, W2 = (w.alloc (.cells #[.string h.nm, .slice pa h.args.length ca, .slice pl l.length cl] 27)).alloc (.cells #[.string ⟨#[]⟩, .slice none 0 0, .slice none 0 0] 27) := ⟨_, rfl⟩
  have B2 : Hid (Below w.heap.size w W2) := Lib.hid (by rw [hW2]; exact next0 (below_alloc _ _) (below_alloc _ _))
  have H2 : Hid (Has W2 w.heap.size #[.string h.nm, .slice pa h.args.length ca, .slice pl l.length cl]) := Lib.hid (by rw [hW2]; exact (Has.new w _ _).alloc _)
  have E2 : Hid (Has W2 (w.heap.size + 1) #[.string ⟨#[]⟩, .slice none 0 0, .slice none 0 0]) := Lib.hid (by rw [hW2]; exact Has.new1 w _ _ _)
  have hs2 : w.heap.size + 2 ≤ W2.heap.size := by rw [hW2]; simp
  have HS := Lib.hid (fun w' (k : Below w.heap.size w w') => hh.deep k hB)
  have HL := Lib.hid (fun w' (k : Below w.heap.size w w') => hl.keep (w' := w') fun b o hb => k.cell (p := ⟨b, o, none⟩) (Nat.lt_of_lt_of_le hb hB))
  have CV := Lib.hid (valid_any (h, l) B W2 _ _ (by omega) hnm (HS.out W2 B2.out) (HL.out W2 B2.out))
  have VZ : Hid (vlB (h, l) = true → codeN (h, l) = if 5 < (VsR (h, l)).length then 11 else 0) := Lib.hid (fun e => by unfold codeN; rw [if_pos e])
  have VN : Hid (vlB (h, l) = false → codeN (h, l) = 13) := Lib.hid (fun e => by unfold codeN; rw [if_neg (by rw [e]; simp)])
  have VP := Lib.hid (fun e => vl_parts (r := (h, l)) e)
  have VC := Lib.hid (fun (e : vlB (h, l) = true) w' (k : Below w.heap.size w w') => varsof_any h l l.length rfl (by have := (vl_parts e).1; exact Nat.le_trans this (by omega)) (vl_szr (r := (h, l)) e) B w' _ _ (Nat.le_trans hB k.size) (HS.out w' k) hnm (HL.out w' k))
  have SH := Lib.hid (hh.weaken fun b hb => Nat.lt_of_lt_of_le hb hB)
  have SL := Lib.hid (hl.wide fun b hb => Nat.lt_of_lt_of_le hb hB)
  have HNM := Lib.hid hnm
  clear hh hl HS HL hnm
  generalize hvb : vlB (h, l) = vb at *
  have HVB := Lib.hid hvb
  clear hvb
  obtain ⟨b1, b2, b3, b4, b5, b6, b7⟩ := UnpP.has3 H2.out
  go_enter Tryz.func14, Tryz.ntmps14
  go_upto_region 1 with fail
  rw [← hW2]
  clear hW2
  go_wp2_with fail
  refine CV.out.mono ?_
  rintro e w3 ⟨rfl, g3⟩
  have K3 := Lib.hid (next0 B2.out g3.1)
  have H3 := Lib.hid (H2.out.step0 g3.1)
  have E3 := Lib.hid (E2.out.step0 g3.1)
  clear g3 b1 b2 b3 b4 b5 b6 b7 H2 E2 CV B2
  cases vb
  · have C13 := Lib.hid (VN.out rfl)
    obtain ⟨f1, f2, f3, f4, f5, f6, f7⟩ := UnpP.has3 E3.out
    have R6 := UnmH.put3 E3.out (.string ⟨#[]⟩) (.slice none 0 0) (.slice none 0 0)
    obtain ⟨r1, r2, r3⟩ := UniA.three R6
    have K6 := Lib.hid (((K3.out.setCell (p := ⟨w.heap.size + 1, 0, none⟩) (by simp) (.string ⟨#[]⟩)).setCell (p := ⟨w.heap.size + 1, 1, none⟩) (by simp) (.slice none 0 0)).setCell (p := ⟨w.heap.size + 1, 2, none⟩) (by simp) (.slice none 0 0))
    clear R6 VZ VC VP
    go_wp2_with fail
    refine bodyPost_ret (v := .tuple #[.agg #[.string ⟨#[]⟩, .slice none 0 0, .slice none 0 0], .int .i64 13]) (by simp [results, Tryz.results14, go_sem, r1, r2, r3]) rfl ?_
    exact nfr_zero C13.out (by decide) K6.out
  · have VC3 := Lib.hid (VC.out rfl w3 K3.out)
    have C11 := Lib.hid (VZ.out rfl)
    have P8 := Lib.hid (VP.out rfl)
    clear VN VC VP VZ
    have VS := Lib.hid (vsr_size (h, l))
    have VT := Lib.hid (vsr_srt (h, l))
    have NO := Lib.hid (fun n x (hn : (VsR (h, l)).length = n) h5 hl => nf_of (r := (h, l)) (x := x) (n := n) hn h5 hl)
    have NFR : Hid (∀ x, codeN (h, l) = 0 → IsNF (VsR (h, l)) (h, l) x → NfOf (h, l) x) := Lib.hid (fun x e hx => ⟨fun _ => hx, fun e' => absurd e e'⟩)
    generalize hV : VsR (h, l) = V at *
    obtain ⟨b1, b2, b3, b4, b5, b6, b7⟩ := UnpP.has3 H3.out
    go_wp2_with fail
    refine VC3.out.mono ?_
    rintro e w4 ⟨p, c, rfl, hst, k4⟩
    have K4 := Lib.hid (next0 K3.out k4)
    have H4 := Lib.hid (H3.out.step0 k4)
    have E4 := Lib.hid (E3.out.step0 k4)
    have hs34 := k4.size
    have ST : Hid (StrR w3.heap.size w4 p V) := Lib.hid hst
    clear k4 hst b1 b2 b3 b4 b5 b6 b7 H3 E3 VC3
    generalize hn : V.length = n at *
    have HN := Lib.hid hn
    clear hn
    by_cases h5 : 5 < n
    · have h5' : (5 : Int) < n := by omega
      rw [if_pos h5] at C11
      obtain ⟨f1, f2, f3, f4, f5, f6, f7⟩ := UnpP.has3 E4.out
      have R6 := UnmH.put3 E4.out (.string ⟨#[]⟩) (.slice none 0 0) (.slice none 0 0)
      obtain ⟨r1, r2, r3⟩ := UniA.three R6
      have K6 := Lib.hid (((K4.out.setCell (p := ⟨w.heap.size + 1, 0, none⟩) (by simp) (.string ⟨#[]⟩)).setCell (p := ⟨w.heap.size + 1, 1, none⟩) (by simp) (.slice none 0 0)).setCell (p := ⟨w.heap.size + 1, 2, none⟩) (by simp) (.slice none 0 0))
      clear R6 P8 VS VT NO NFR
      go_wp2_with fail
      refine bodyPost_ret (v := .tuple #[.agg #[.string ⟨#[]⟩, .slice none 0 0, .slice none 0 0], .int .i64 11]) (by simp [results, Tryz.results14, go_sem, r1, r2, r3]) rfl ?_
      exact nfr_zero C11.out (by decide) K6.out
    · have h5' : ¬ (5 : Int) < n := by omega
      rw [if_neg h5] at C11
      obtain ⟨W6, hW6⟩ : ∃ z, z = (w4.alloc (.cells #[.string ⟨#[]⟩, .slice none 0 0, .slice none 0 0] 27)).alloc (.cells #[.bool false] 4) := ⟨_, rfl⟩
      have J6 : Hid (Below w4.heap.size w4 W6) := Lib.hid (by rw [hW6]; exact next0 (below_alloc _ _) (below_alloc _ _))
      have L6 : Hid (Has W6 w4.heap.size #[.string ⟨#[]⟩, .slice none 0 0, .slice none 0 0]) := Lib.hid (by rw [hW6]; exact (Has.new _ _ _).alloc _)
      have F6 : Hid (Has W6 (w4.heap.size + 1) #[.bool false]) := Lib.hid (by rw [hW6]; exact Has.new1 _ _ _ _)
      have hs6 : w4.heap.size + 2 ≤ W6.heap.size := by rw [hW6]; simp
      have K6 := Lib.hid (next0 K4.out J6.out)
      have H6 := Lib.hid (H4.out.step0 J6.out)
      have E6 := Lib.hid (E4.out.step0 J6.out)
      have hs24 : w.heap.size + 2 ≤ w4.heap.size := by have := E4.out.lt; omega
      have ROW : Hid (∀ i v, V[i]? = some v → ∃ b o, p = some ⟨b, o, none⟩ ∧ b < W6.heap.size ∧ W6.cell? ⟨b, o + i, none⟩ = some (.string v)) := Lib.hid (fun i v hv => by
        obtain ⟨g, e, _, h2, h3⟩ := ST.out i v hv
        refine ⟨g, 0, e, by omega, ?_⟩
        rw [Nat.zero_add]
        exact (J6.out.cell (p := ⟨g, i, none⟩) h2).trans h3)
      have HVS := Lib.hid (fun (pre : List (List ByteArray)) (ns : List ByteArray) (w' : World) (hns : ns.length = n) (h100 : ∀ x ∈ ns, x.size ≤ 100) (hp : PP w W6.heap.size W6.heap.size (w4.heap.size + 1) w.heap.size w4.heap.size V h l (.slice pa h.args.length ca) (.slice pl l.length cl) pre w' ∧ Has w' (w.heap.size + 1) #[.string ⟨#[]⟩, .slice none 0 0, .slice none 0 0]) (hR : Rw w' W6.heap.size V ns) =>
        show Calls Tryz.prog 35 #[.slice (some ⟨W6.heap.size, 0, none⟩) n n, .pointer (some ⟨w4.heap.size + 1, 0, none⟩), .pointer (some ⟨w.heap.size, 0, none⟩), .pointer (some ⟨w4.heap.size, 0, none⟩)] w' (fun e w'' => e = .returned (.tuple #[]) ∧ (PP w W6.heap.size W6.heap.size (w4.heap.size + 1) w.heap.size w4.heap.size V h l (.slice pa h.args.length ca) (.slice pl l.length cl) (pre ++ [ns]) w'' ∧ Has w'' (w.heap.size + 1) #[.string ⟨#[]⟩, .slice none 0 0, .slice none 0 0]) ∧ Rw w'' W6.heap.size V ns) from
        (step_any V n HN.out (by omega) VT.out VS.out h l _ _ w W6.heap.size W6.heap.size (w4.heap.size + 1) w.heap.size w4.heap.size (Nat.le_refl _) (by omega) (by omega) (by omega) (by omega) (by omega) (by omega) (by omega) SH.out SL.out HNM.out (Nat.le_trans P8.out.1 (by omega)) (Nat.le_trans P8.out.2.1 (by omega)) (fun x hx => Nat.le_trans (P8.out.2.2 x hx) (by omega)) pre ns w' hns h100 hp.1 hR).mono
          fun _ _ ⟨he, a, b, c⟩ => ⟨he, ⟨a, c.has hp.2 (by omega)⟩, b⟩)
      have P00 := Lib.hid (fun (w' : World) (k : Below W6.heap.size W6 w') => show PP w W6.heap.size W6.heap.size (w4.heap.size + 1) w.heap.size w4.heap.size V h l (.slice pa h.args.length ca) (.slice pl l.length cl) [] w' ∧ Has w' (w.heap.size + 1) #[.string ⟨#[]⟩, .slice none 0 0, .slice none 0 0] from
        ⟨⟨next0 K6.out k, k.size, H6.out.step0 k, F6.out.step0 k, zeroR, none, 0, .slice none 0 0, L6.out.step0 k, SlIn.none _ _, LIn.nil _ _, Nat.zero_le _, fun e => absurd rfl e⟩, E6.out.step0 k⟩)
      have KR := Lib.hid (renaming_any V n W6 p c (.pointer (some ⟨w4.heap.size + 1, 0, none⟩)) (.pointer (some ⟨w.heap.size, 0, none⟩)) (.pointer (some ⟨w4.heap.size, 0, none⟩)) (by omega) HN.out ROW.out
        (fun pre w' => PP w W6.heap.size W6.heap.size (w4.heap.size + 1) w.heap.size w4.heap.size V h l (.slice pa h.args.length ca) (.slice pl l.length cl) pre w' ∧ Has w' (w.heap.size + 1) #[.string ⟨#[]⟩, .slice none 0 0, .slice none 0 0])
        (fun pre w1 w' hp hc => ⟨hp.1.ch hc (by omega) (Nat.le_refl _) (by omega) (by omega) (by omega), hc.has hp.2 (by omega)⟩) HVS.out P00.out)
      clear ROW HVS P00 P8 VS VT ST SH SL HNM H4 E4 L6 F6
      go_upto_region 8 with fail
      rw [← hW6]
      clear hW6
      go_wp2_with fail
      refine KR.out.mono ?_
      rintro e w7 ⟨rfl, ⟨hp, hr⟩, _⟩
      obtain ⟨k0, hS1, _, _, x, q, d, v, hbl, hsx, hlx, hnx, hle⟩ := hp
      have NF := Lib.hid (NO.out n x rfl (by omega) (hle (vis_ne n)))
      obtain ⟨xp, xc, rfl⟩ := hlx.form
      have C0 := C11.out
      have NF2 := Lib.hid (NFR.out x C0 NF.out)
      have K7 := Lib.hid k0
      have R7 := Lib.hid hr
      have S7 := Lib.hid hsx
      have L7 := Lib.hid hlx
      have X7 := Lib.hid hnx
      have B7 := Lib.hid hbl
      clear KR k0 hr hsx hlx hnx hbl hle NO NFR NF C11
      have CC0 := Lib.hid C0
      clear C0
      obtain ⟨W9, hW9⟩ : ∃ z, z = ((w7.setCell ⟨w.heap.size + 1, 0, none⟩ (.string x.1.nm)).setCell ⟨w.heap.size + 1, 1, none⟩ (.slice q x.1.args.length d)).setCell ⟨w.heap.size + 1, 2, none⟩ (.slice xp x.2.length xc) := ⟨_, rfl⟩
      have R6 := UnmH.put3 R7.out (.string x.1.nm) (.slice q x.1.args.length d) (.slice xp x.2.length xc)
      obtain ⟨r1, r2, r3⟩ := UniA.three R6
      have P9 : Hid (LigY.Lt (· = w.heap.size + 1) w7 W9) := Lib.hid (by rw [hW9]; exact Lt.put (ex := (· = w.heap.size + 1)) (p := ⟨w.heap.size + 1, 2, none⟩) (Lt.put (ex := (· = w.heap.size + 1)) (p := ⟨w.heap.size + 1, 1, none⟩) (Lt.put (ex := (· = w.heap.size + 1)) (p := ⟨w.heap.size + 1, 0, none⟩) (Lt.of (Below.refl _ _)) (Or.inl rfl) _) (Or.inl rfl) _) (Or.inl rfl) _)
      have hz9 := P9.out.size
      have X9 : Hid (NfR (h, l) w (.returned (.tuple #[.agg #[.string x.1.nm, .slice q x.1.args.length d, .slice xp x.2.length xc], .int .i64 0])) W9) := Lib.hid ⟨x, q, d, _, by rw [CC0.out], NF2.out, (S7.out.frame fun b o hb => P9.out.cell hb.2.1 (by have := hb.1; omega)).weaken fun b hb => ⟨by omega, by omega⟩, (L7.out.keep fun b o hb => P9.out.cell hb.2.1 (by have := hb.1; omega)).wide fun b hb => ⟨by omega, by omega⟩, X7.out, K7.out.trans (P9.out.toBelow (by omega) fun i hi => by omega)⟩
      have HW9 := Lib.hid hW9
      obtain ⟨f1, f2, f3, f4, f5, f6, f7⟩ := UnpP.has3 R7.out
      obtain ⟨g1, g2, g3, g4, g5, g6, g7⟩ := UnpP.has3 B7.out
      clear R6 P9 hz9 hW9 S7 L7 NF2 X7
      generalize x.1.nm = xn at *
      generalize x.1.args.length = xa at *
      generalize x.2.length = xl at *
      go_wp2_with fail
      refine bodyPost_ret (v := .tuple #[.agg #[.string xn, .slice q xa d, .slice xp xl xc], .int .i64 0]) (by simp [results, Tryz.results14, go_sem, r1, r2, r3]) rfl ?_
      rw [← HW9.out]
      exact X9.out
end NosF
end Go.Proofs.YtdkpflojdnkbnaaGreatDoor
/- A printable rule's normal form is printable; how long its text is; normal forms of lists as plain data. No conditions. -/
namespace Go.Proofs.YtdkpflojdnkbnaaGreatDoor
open Go
namespace NosV
open LexM TermM UniM UniK UniD UniE NorB NorC NorD NorM NorP NorQ NorR NorS NosQ NosF
theorem ins_len (x : Lt) : ∀ l : List Lt, (insL x l).length ≤ l.length + 1
  | [] => by simp [insL]
  | y :: l => by
    unfold insL
    split
    · simp
    · split
      · simp
      · have := ins_len x l
        simp
        omega
theorem arr_len (l : List Lt) : (arrL l).length ≤ l.length := by
  have gen : ∀ (l a : List Lt), (l.foldl (fun a x => insL x a) a).length ≤ a.length + l.length := by
    intro l
    induction l with
    | nil => intro a; simp
    | cons x l ih =>
      intro a
      have h1 := ih (insL x a)
      have h2 := ins_len x a
      simp only [List.foldl_cons, List.length_cons]
      omega
  simpa [arrL] using gen l []
/-- A way of replacing that takes variables to variables and nothing else. -/
def VV (φ : ByteArray → Tm) : Prop := ∀ n, (varB n = true → ∃ m, φ n = .mk m [] ∧ varB m = true) ∧ (varB n = false → φ n = .mk n [])
theorem ren_vv {V : List ByteArray} {φ : ByteArray → Tm} (h : IsRen V φ) (h9 : V.length ≤ 9) (hV : ∀ v ∈ V, varB v = true) : VV φ := fun n => by
  obtain ⟨f, f1, f2, _⟩ := ren_names h h9
  refine ⟨fun hn => ?_, fun hn => h.2 n fun e => by rw [hV n e] at hn; cases hn⟩
  by_cases e : n ∈ V
  · exact ⟨f n, f1 n e, f2 n e⟩
  · exact ⟨n, h.2 n e, hn⟩
theorem con_novar {n : ByteArray} (h : conB n = true) : varB n = false := TermH.con_var h
theorem rep_valid {φ : ByteArray → Tm} (hφ : VV φ) : ∀ (d : Nat) (t : Tm), validT false d t = true → validT false d (repT φ t) = true
  | 0, t, h => by simp [validT] at h
  | d + 1, .mk n [], h => by
    simp [validT] at h
    have e : repT φ (.mk n []) = φ n := by simp [repT]
    rw [e]
    rcases h with h | h
    · rw [(hφ n).2 (con_novar h)]
      simp [validT, h]
    · obtain ⟨m, h1, h2⟩ := (hφ n).1 h
      rw [h1]
      simp [validT, h2]
  | d + 1, .mk n (a :: l), h => by
    have e : repT φ (.mk n (a :: l)) = .mk n ((a :: l).map (repT φ)) := by rw [repT, if_neg (by simp), repL_map]
    rw [e]
    simp only [validT, List.isEmpty_cons, Bool.false_eq_true, if_false, Bool.and_eq_true, decide_eq_true_eq, List.all_eq_true] at h
    have hne : ((a :: l).map (repT φ)).isEmpty = false := by simp
    simp only [validT, hne, Bool.false_eq_true, if_false, Bool.and_eq_true, decide_eq_true_eq, List.all_eq_true, List.length_map]
    refine ⟨h.1, fun x hx => ?_⟩
    obtain ⟨y, hy, rfl⟩ := List.mem_map.1 hx
    exact rep_valid hφ d y (h.2 y hy)
theorem name_novar {n : ByteArray} (h : nameL n.data.toList = true) : varB n = false := con_novar (by unfold conB nameB; rw [h, Bool.or_true])
theorem rep_atom {φ : ByteArray → Tm} (hφ : VV φ) {t : Tm} (h : atB t = true) : atB (repT φ t) = true := by
  obtain ⟨h1, h2⟩ := NosT.at_valid h
  have h3 := rep_valid hφ 4 t h2
  have e : (repT φ t).nm = t.nm := by
    cases t with
    | mk n l =>
      cases l with
      | nil =>
        have e : repT φ (.mk n []) = φ n := by simp [repT]
        rw [e, (hφ n).2 (name_novar h1)]
      | cons a l =>
        have e : repT φ (.mk n (a :: l)) = .mk n ((a :: l).map (repT φ)) := by rw [repT, if_neg (by simp), repL_map]
        rw [e]
        rfl
  unfold atB
  rw [e, h1, h3]
  rfl
theorem vsr_varB (r : Rl) : ∀ v ∈ VsR r, varB v = true := fun v hv => ((vsr_mem r v).1 hv).1
theorem nf_valid {r x : Rl} (hv : vlB r = true) (h5 : (VsR r).length ≤ 9) (h : IsNF (VsR r) r x) : vlB x = true := by
  unfold vlB at hv ⊢
  simp only [Bool.and_eq_true, decide_eq_true_eq, List.all_eq_true] at hv ⊢
  obtain ⟨u, hu, e⟩ := (cand_iff (vsr_vars r).1).1 h.1
  have hR := zip_ren (vsr_vars r).1 hu
  have hφ := ren_vv hR h5 (vsr_varB r)
  have e1 : x.1 = repT (leafS ((VsR r).zip u)) r.1 := by rw [e, rep_app]; rfl
  refine ⟨?_, ?_, fun y hy => ?_⟩
  · rw [e]
    have := arr_len (r.2.map fun x => (x.1, appT ((VsR r).zip u) x.2))
    rw [List.length_map] at this
    exact Nat.le_trans this hv.1
  · rw [e1]; exact rep_atom hφ hv.2.1
  · rw [e] at hy
    obtain ⟨z, hz, rfl⟩ := List.mem_map.1 ((arr_mem _ y).1 hy)
    show atB (appT _ z.2) = true
    rw [← rep_app]
    exact rep_atom hφ (hv.2.2 z hz)
theorem code_zero {r : Rl} (h : codeN r = 0) : vlB r = true ∧ (VsR r).length ≤ 5 := by
  unfold codeN at h
  split at h
  · rename_i hv
    split at h
    · cases h
    · exact ⟨hv, by omega⟩
  · cases h
theorem nf_vl {r x : Rl} (h : NfOf r x) (h0 : codeN r = 0) : vlB x = true := nf_valid (code_zero h0).1 (Nat.le_trans (code_zero h0).2 (by omega)) (h.1 h0)
/-! ### How long a printable rule's text is -/
theorem text_len (g : Bool) : ∀ (d : Nat) (t : Tm), validT g d t = true → (textT t).length + 1 ≤ 19 * sizeT t
  | 0, t, h => by simp [validT] at h
  | d + 1, .mk n l, h => by
    obtain ⟨_, h2, h3⟩ := NosT.valid_parts h
    have tl : ∀ l : List Tm, (∀ t ∈ l, validT g d t = true) → (tailT l).length ≤ 19 * sizeL l := by
      intro l
      induction l with
      | nil => intro _; simp [tailT]
      | cons a l ih =>
        intro hl
        have h1 := text_len g d a (hl a (by simp))
        have h2 := ih (fun t ht => hl t (by simp [ht]))
        simp only [tailT, sizeL, List.length_append, List.length_cons]
        omega
    have h4 := tl l h3
    simp only [textT, sizeT, List.length_append]
    split
    · simp only [List.length_nil]; omega
    · simp only [List.length_cons, List.length_append, List.length_drop, List.length_nil]; omega
theorem at_len {t : Tm} (h : atB t = true) : (textT t).length ≤ 2000 := by
  have h1 := (NosT.at_valid h).2
  have h2 := text_len false 4 t h1
  have h3 := size_valid false 4 t h1
  have e : szd 4 = 85 := rfl
  omega
theorem tail_len : ∀ (l : List Lt), (∀ x ∈ l, atB x.2 = true) → (Lib.joinTail [32, 97, 110, 100, 32] (l.map litX)).length ≤ l.length * 3000
  | [], _ => by simp [Lib.joinTail]
  | x :: l, h => by
    have h1 := at_len (h x List.mem_cons_self)
    have h2 := tail_len l fun y hy => h y (List.mem_cons_of_mem _ hy)
    have h3 : (litX x).length ≤ 4 + (textT x.2).length := by unfold litX; split <;> simp <;> omega
    simp only [Lib.joinTail, List.map_cons, List.flatten_cons, List.length_append, List.length_cons, List.length_nil] at h2 ⊢
    omega
theorem vl_sm {r : Rl} (h : vlB r = true) : NorF.Sm r := by
  unfold vlB at h
  simp only [Bool.and_eq_true, decide_eq_true_eq, List.all_eq_true] at h
  refine ⟨Nat.le_trans (at_len h.2.1) (by omega), by omega, fun x hx => Nat.le_trans (at_len (h.2.2 x hx)) (by omega), ?_⟩
  unfold bodyX
  cases hr : r.2 with
  | nil => simp [Lib.join_nil]
  | cons x l =>
    have hh := h.2.2
    rw [hr] at hh
    have h1 := at_len (hh x List.mem_cons_self)
    have h2 := tail_len l fun y hy => hh y (List.mem_cons_of_mem _ hy)
    have h3 : (litX x).length ≤ 4 + (textT x.2).length := by unfold litX; split <;> simp <;> omega
    have h4 := h.1
    rw [hr] at h4
    rw [List.map_cons, Lib.join_cons, List.length_append]
    simp at h4
    omega
/-! ### Lists -/
def firstE : List Rl → Int
  | [] => 0
  | r :: l => if codeN r = 0 then firstE l else codeN r
/-- The error of Rules. -/
def codeL (l : List Rl) : Int := if 128 < l.length then 2 else firstE l
/-- What Rules answers. -/
def RsOf (l m : List Rl) : Prop := (codeL l = 0 → Asc cmpR m ∧ ∀ x, x ∈ m ↔ ∃ r ∈ l, NfOf r x) ∧ (codeL l ≠ 0 → m = [])
theorem rs_det {l m k : List Rl} (h : RsOf l m) (h' : RsOf l k) : m = k := by
  by_cases e : codeL l = 0
  · obtain ⟨a1, a2⟩ := h.1 e
    obtain ⟨b1, b2⟩ := h'.1 e
    exact asc_unique r_neg r_zero a1 b1 fun x => (a2 x).trans (b2 x).symm
  · rw [h.2 e, h'.2 e]
theorem first_ok : ∀ {l : List Rl}, (∀ r ∈ l, codeN r = 0) → firstE l = 0
  | [], _ => rfl
  | r :: l, h => by
    unfold firstE
    rw [if_pos (h r List.mem_cons_self)]
    exact first_ok fun x hx => h x (List.mem_cons_of_mem _ hx)
theorem first_bad : ∀ {l : List Rl} {k : Nat} {r : Rl}, l[k]? = some r → (∀ x ∈ l.take k, codeN x = 0) → codeN r ≠ 0 → firstE l = codeN r
  | [], k, r, h, _, _ => by simp at h
  | a :: l, 0, r, h, _, hc => by
    simp at h
    subst h
    unfold firstE
    rw [if_neg hc]
  | a :: l, k + 1, r, h, ht, hc => by
    unfold firstE
    rw [if_pos (ht a (by simp))]
    exact first_bad (by simpa using h) (fun x hx => ht x (by simp [hx])) hc
end NosV
end Go.Proofs.YtdkpflojdnkbnaaGreatDoor
