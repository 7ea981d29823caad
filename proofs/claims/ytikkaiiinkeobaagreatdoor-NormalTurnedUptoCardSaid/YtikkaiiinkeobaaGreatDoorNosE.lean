/- What Rule of the code calls for each renaming: the least rule so far. Conditions: at most a hundred variables, ascending; at most a thousand literals; at most a million parts each. -/
import Derived.Test.YtikkaiiinkeobaaGreatDoorNosC
import Derived.Test.YtikkaiiinkeobaaGreatDoorNosK
import Derived.Test.YtikkaiiinkeobaaGreatDoorGBD
import Derived.Test.YtikkaiiinkeobaaGreatDoorGAK
import Derived.Test.YtikkaiiinkeobaaGreatDoorGBF
import Derived.Test.YtikkaiiinkeobaaGreatDoorGAW
import Derived.Deep.RegionHeld
namespace Go.Proofs.YtikkaiiinkeobaaGreatDoor
open Go Go.RowKit
namespace NosE
open Kit LexM TermM TermI TermN TermU TermQ TermR UniK UniM UniA UniC UniD UniE UniF UnpP NorM NorP NorQ NorR NorJ NorA NosC NosK LigY UnqA UnqB UnqD
/-- The rule for one renaming. -/
def cand (V : List ByteArray) (h : Tm) (l : List Lt) (ns : List ByteArray) : Rl := cnd V (h, l) (tms ns)
theorem row_flat (vs ns : List ByteArray) : rowB vs ns = KB.flat ((vs.zip (tms ns)).map fun x => (x, Value.slice none 0 0)) := by
  unfold rowB Kd.flat tms
  rw [List.zip_map_right, List.map_map, List.flatMap_map]
  rfl
theorem zip_mem {vs ns : List ByteArray} {x : Bd} (h : x ∈ vs.zip (tms ns)) : x.1 ∈ vs ∧ ∃ b ∈ ns, x.2 = .mk b [] := by
  obtain ⟨h1, h2⟩ := List.of_mem_zip (a := x.1) (b := x.2) h
  obtain ⟨b, hb, e⟩ := List.mem_map.1 h2
  exact ⟨h1, b, hb, e.symm⟩
/-- The bindings in memory. -/
theorem rw_sin {w : World} {g n : Nat} {vs ns : List ByteArray} (h : Rw w g vs ns) (hv : vs.length = n) (hn : ns.length = n) (h1 : ∀ x ∈ ns, x.size ≤ 100) (h2 : ∀ x ∈ vs, x.size ≤ 100) (hm : n ≤ 100) :
    SIn (· < w.heap.size) w (vs.zip (tms ns)) (.slice (some ⟨g, 0, none⟩) n n) := by
  have hl : (vs.zip (tms ns)).length = n := by simp [tms, hv, hn]
  refine ⟨(vs.zip (tms ns)).map fun x => (x, Value.slice none 0 0), by rw [List.map_map]; exact List.map_id _, some ⟨g, 0, none⟩, n, by rw [List.length_map, hl], by rw [List.length_map, hl]; exact Nat.le_refl _, by unfold maxLen; omega, fun x hx => ?_, fun _ => ⟨g, 0, rfl, Has.lt h, fun i x hx j u hu => ?_⟩⟩
  · obtain ⟨y, hy, rfl⟩ := List.mem_map.1 hx
    obtain ⟨a1, b, hb, a2⟩ := zip_mem hy
    have a3 := h2 _ a1
    have a4 := h1 _ hb
    show SlIn _ _ y.2.args _ ∧ y.2.nm.size ≤ maxLen ∧ y.1.size ≤ maxLen
    rw [a2]
    exact ⟨SlIn.none _ _, Nat.le_trans a4 (by unfold maxLen; omega), Nat.le_trans a3 (by unfold maxLen; omega)⟩
  · have f := flat_get (K := KB) _ i x hx j u hu
    rw [← row_flat] at f
    refine (Has.cell h _).trans ?_
    rw [List.getElem?_toArray, Nat.zero_add]
    exact f
theorem zip_srt {vs : List ByteArray} (hs : vs.Pairwise fun x y => lexB x.data.toList y.data.toList < 0) (u : List Tm) : Srt (vs.zip u) := fun i j x y hij hx hy => by
  have h1 := (List.getElem?_zip_eq_some.1 hx).1
  have h2 := (List.getElem?_zip_eq_some.1 hy).1
  obtain ⟨a1, a2⟩ := List.getElem?_eq_some_iff.1 h1
  obtain ⟨b1, b2⟩ := List.getElem?_eq_some_iff.1 h2
  have := List.pairwise_iff_getElem.1 hs i j a1 b1 hij
  rwa [a2, b2] at this
theorem zip_sz {vs ns : List ByteArray} (h : vs.length ≤ 100) : Sz (vs.zip (tms ns)) := by
  refine ⟨by have : (vs.zip (tms ns)).length ≤ vs.length := by simp; omega
             omega, fun y hy => ?_⟩
  obtain ⟨_, b, _, e⟩ := zip_mem hy
  rw [e]
  simp [sizeT, sizeL]
theorem lt_trans2 {ex ex2 : Nat → Prop} {a b c : World} (h : LigY.Lt ex a b) (k : LigY.Lt ex2 b c) (hx : ∀ i, ex2 i → ex i ∨ a.heap.size ≤ i) : LigY.Lt ex a c :=
  ⟨k.os.trans h.os, k.tape.trans h.tape, k.output.trans h.output, Nat.le_trans h.size k.size, fun i hi hn => (k.block i (Nat.lt_of_lt_of_le hi h.size) fun e => by rcases hx i e with e | e; exact hn e; omega).trans (h.block i hi hn)⟩
/-- What is kept while the renamings are gone through: the rule, whether one was found, the least so far. -/
def PP (w0 : World) (S g bf br bl : Nat) (V : List ByteArray) (h : Tm) (l : List Lt) (hv lv : Value) (pre : List (List ByteArray)) (w : World) : Prop :=
  Below w0.heap.size w0 w ∧ S ≤ w.heap.size ∧ Has w br #[.string h.nm, hv, lv] ∧ Has w bf #[.bool (!pre.isEmpty)] ∧
  ∃ (x : Rl) (q : Option Addr) (d : Nat) (v : Value), Has w bl #[.string x.1.nm, .slice q x.1.args.length d, v] ∧ SlIn (fun b => S ≤ b ∧ b < w.heap.size ∧ b ≠ g) w x.1.args (.slice q x.1.args.length d) ∧ LIn (fun b => S ≤ b ∧ b < w.heap.size ∧ b ≠ g) w x.2 v ∧ x.1.nm.size ≤ maxLen ∧ (pre ≠ [] → LeastOf (pre.map (cand V h l)) x)
theorem PP.ch {w0 : World} {S g bf br bl : Nat} {V : List ByteArray} {h : Tm} {l : List Lt} {hv lv : Value} {pre : List (List ByteArray)} {w w' : World} (hP : PP w0 S g bf br bl V h l hv lv pre w) (hc : Ch g w w') (hS : w0.heap.size ≤ S) (hg : S ≤ g) (h1 : bf < S) (h2 : br < S) (h3 : bl < S) :
    PP w0 S g bf br bl V h l hv lv pre w' := by
  obtain ⟨k0, hS1, hbr, hbf, x, q, d, v, hbl, hsx, hlx, hnx, hle⟩ := hP
  have hz := hc.size
  refine ⟨k0.trans (hc.toBelow (by omega) (by omega)), by omega, hc.has hbr (by omega), hc.has hbf (by omega), x, q, d, v, hc.has hbl (by omega), ?_, ?_, hnx, hle⟩
  · exact (hsx.frame fun b o hb => hc.cell hb.2.1 hb.2.2).weaken fun b hb => ⟨hb.1, by omega, hb.2.2⟩
  · exact (hlx.keep fun b o hb => hc.cell hb.2.1 hb.2.2).wide fun b hb => ⟨hb.1, by omega, hb.2.2⟩
theorem cmp_gt {u y : Tm} {m k : List Lt} (h : 0 < cmpT u y) : ¬ cmpR (u, m) (y, k) < 0 := by
  show ¬ thn (cmpT u y) (cmpLs m k) < 0
  unfold thn
  rw [if_neg (by omega)]
  omega
set_option maxRecDepth 100000 in
set_option maxHeartbeats 6400000 in
theorem step_any (V : List ByteArray) (n : Nat) (hVn : V.length = n) (hn : n ≤ 100) (hsrt : V.Pairwise fun x y => lexB x.data.toList y.data.toList < 0) (hV1 : ∀ x ∈ V, x.size ≤ 100) (h : Tm) (l : List Lt) (hv lv : Value) (w0 : World) (S g bf br bl : Nat)
    (hg : S ≤ g) (h1 : bf < S) (h3 : bl < S) (h1' : w0.heap.size ≤ bf) (h3' : w0.heap.size ≤ bl) (n1 : bf ≠ br) (n2 : bf ≠ bl) (n3 : br ≠ bl)
    (hh : SlIn (· < w0.heap.size) w0 h.args hv) (hl : LIn (· < w0.heap.size) w0 l lv) (hnm : h.nm.size ≤ maxLen) (hll : l.length ≤ 1000) (hz : sizeT h ≤ 1000000) (hzl : ∀ x ∈ l, sizeT x.2 ≤ 1000000)
    (pre : List (List ByteArray)) (ns : List ByteArray) (w : World) (hns : ns.length = n) (h100 : ∀ x ∈ ns, x.size ≤ 100) (hP : PP w0 S g bf br bl V h l hv lv pre w) (hR : Rw w g V ns) :
    Calls Tryz.prog 35 #[.slice (some ⟨g, 0, none⟩) n n, .pointer (some ⟨bf, 0, none⟩), .pointer (some ⟨br, 0, none⟩), .pointer (some ⟨bl, 0, none⟩)] w fun e w' => e = .returned (.tuple #[]) ∧ PP w0 S g bf br bl V h l hv lv (pre ++ [ns]) w' ∧ Rw w' g V ns ∧ LigY.Lt (fun b => b = bl ∨ b = bf) w w' := by
  obtain ⟨pa, ca, rfl⟩ := hh.form
  obtain ⟨pl, cl, rfl⟩ := hl.form
  obtain ⟨k0, hS1, hbr, hbf, x, q, d, v, hbl, hsx, hlx, hnx, hle⟩ := hP
  obtain ⟨xp, xc, rfl⟩ := hlx.form
  have hgl := Has.lt hR
  have hz0 := k0.size
  have hss := rw_sin hR hVn hns h100 hV1 hn
  have hSr := zip_srt hsrt (tms ns)
  have hSz := zip_sz (vs := V) (ns := ns) (by omega)
  have hh2 : SlIn (· < w.heap.size) w h.args (.slice pa h.args.length ca) := (hh.deep k0 (Nat.le_refl _)).weaken fun b hb => Nat.lt_of_lt_of_le hb hz0
  have hl2 : LIn (· < w.heap.size) w l (.slice pl l.length cl) := (hl.keep fun b o hb => k0.cell (p := ⟨b, o, none⟩) hb).wide fun b hb => Nat.lt_of_lt_of_le hb hz0
  have CA := Lib.hid (fun w' (k : Below w.heap.size w w') => apply_any (V.zip (tms ns)) hSr hSz h w.heap.size w' _ _ k.size (hss.deep k (Nat.le_refl _)) (hh2.deep k (Nat.le_refl _)) hnm hz)
  have CR := Lib.hid (fun w' (k : Below w.heap.size w w') => arule_own (V.zip (tms ns)) hSr hSz h l w' _ _ _ ((hss.deep k (Nat.le_refl _)).wide fun b hb => Nat.lt_of_lt_of_le hb k.size) ((hh2.deep k (Nat.le_refl _)).weaken fun b hb => Nat.lt_of_lt_of_le hb k.size) ((hl2.keep fun b o hb => k.cell (p := ⟨b, o, none⟩) hb).wide fun b hb => Nat.lt_of_lt_of_le hb k.size) hnm hll hz hzl)
  have EC : Hid (cand V h l ns = (appT (V.zip (tms ns)) h, arrL (atomsL (appT (V.zip (tms ns))) l))) := Lib.hid rfl
  have ML : Hid ((atomsL (appT (V.zip (tms ns))) l).length ≤ 1000) := Lib.hid (by unfold atomsL; rw [List.length_map]; exact hll)
  clear hh2 hl2 hss hSr hSz hh hl
  generalize appT (V.zip (tms ns)) h = u at *
  generalize atomsL (appT (V.zip (tms ns))) l = m at *
  -- what the least rule compares as
  have CC := Lib.hid (fun (w3 : World) (k3 : Below w.heap.size w w3) (sv : Value) (hs3 : SlIn (· < w3.heap.size) w3 u.args sv) (hn3 : u.nm.size ≤ maxLen) (w4 : World) (g4 : Gr w3 w4) =>
    cmp_any u w3.heap.size w4 sv x.1 (.slice q x.1.args.length d) g4.size hn3 hnx (hs3.gr g4 (Nat.le_refl _)) (((hsx.frame fun b o hb => (k3.trans (g4.1.mono k3.size)).cell (p := ⟨b, o, none⟩) hb.2.1)).weaken fun b hb => Nat.lt_of_lt_of_le hb.2.1 k3.size))
  have XK := Lib.hid (fun (W : World) (k : LigY.Lt (fun b => b = bl ∨ b = bf) w W) => show SlIn (fun b => S ≤ b ∧ b < w.heap.size ∧ b ≠ g) W x.1.args (.slice q x.1.args.length d) ∧ LIn (fun b => S ≤ b ∧ b < w.heap.size ∧ b ≠ g) W x.2 (.slice xp x.2.length xc) from
    ⟨hsx.frame fun b o hb => k.cell hb.2.1 (by have := hb.1; omega), hlx.keep fun b o hb => k.cell hb.2.1 (by have := hb.1; omega)⟩)
  -- the two endings
  have FK := Lib.hid (fun (W : World) (k : Below w.heap.size w W) (hpre : pre ≠ []) (hc : ¬ cmpR (u, arrL m) x < 0) => show PP w0 S g bf br bl V h l (.slice pa h.args.length ca) (.slice pl l.length cl) (pre ++ [ns]) W ∧ Rw W g V ns ∧ LigY.Lt (fun b => b = bl ∨ b = bf) w W from
    ⟨⟨next0 k0 k, Nat.le_trans hS1 k.size, hbr.step0 k, by
        have e : (!(pre ++ [ns]).isEmpty) = !pre.isEmpty := by cases pre <;> simp at hpre ⊢
        rw [e]; exact hbf.step0 k, x, q, d, _, hbl.step0 k, (XK.out W (Lt.of k)).1.weaken (fun b hb => ⟨hb.1, Nat.lt_of_lt_of_le hb.2.1 k.size, hb.2.2⟩), (XK.out W (Lt.of k)).2.wide (fun b hb => ⟨hb.1, Nat.lt_of_lt_of_le hb.2.1 k.size, hb.2.2⟩), hnx, fun _ => by
        rw [List.map_append, List.map_cons, List.map_nil, EC.out]
        exact (least_snoc (hle hpre)).2 hc⟩, hR.step0 k, Lt.of k⟩)
  have FS := Lib.hid (fun (W : World) (k : LigY.Lt (fun b => b = bl ∨ b = bf) w W) (q5 : Option Addr) (d5 : Nat) (v5 : Value) (R2 : Nat) (hR1 : w.heap.size ≤ R2) (hR2 : R2 ≤ W.heap.size) (b1 : Has W bf #[.bool true]) (b2 : Has W bl #[.string u.nm, .slice q5 u.args.length d5, v5]) (b3 : SlIn (fun b => w.heap.size ≤ b ∧ b < R2) W u.args (.slice q5 u.args.length d5)) (b4 : LIn (fun b => w.heap.size ≤ b ∧ b < R2) W (arrL m) v5) (b5 : u.nm.size ≤ maxLen) (hc : pre ≠ [] → cmpR (u, arrL m) x < 0) =>
    show PP w0 S g bf br bl V h l (.slice pa h.args.length ca) (.slice pl l.length cl) (pre ++ [ns]) W ∧ Rw W g V ns ∧ LigY.Lt (fun b => b = bl ∨ b = bf) w W from
    ⟨⟨k0.trans (k.toBelow hz0 fun i hi => by rcases hi with rfl | rfl <;> omega), by omega, k.has hbr (by omega), by
        have e : (!(pre ++ [ns]).isEmpty) = true := by cases pre <;> simp
        rw [e]; exact b1, (u, arrL m), q5, d5, v5, b2, b3.weaken (fun b hb => ⟨by omega, by omega, by omega⟩), b4.wide (fun b hb => ⟨by omega, by omega, by omega⟩), b5, fun _ => by
        rw [List.map_append, List.map_cons, List.map_nil, EC.out]
        by_cases hpre : pre = []
        · subst hpre
          refine ⟨by simp, fun y hy => ?_⟩
          obtain rfl : y = (u, arrL m) := by simpa using hy
          have := (r_zero (u, arrL m) (u, arrL m)).2 rfl
          omega
        · exact (least_snoc (hle hpre)).1 (hc hpre)⟩, k.has hR (by omega), k⟩)
  have CQ := Lib.hid (fun (W : World) (k : Below w.heap.size w W) (sv v5 : Value) (hs : SlIn (· < W.heap.size) W u.args sv) (hl5 : LIn (· < W.heap.size) W (arrL m) v5) (hn5 : u.nm.size ≤ maxLen) (w4 : World) (g4 : Gr W w4) =>
    cmpr_any u x.1 (arrL m) x.2 W.heap.size w4 sv (.slice q x.1.args.length d) v5 (.slice xp x.2.length xc) g4.size (hs.gr g4 (Nat.le_refl _)) (((XK.out w4 (Lt.of (next0 k g4.1))).1).weaken fun b hb => Nat.lt_of_lt_of_le hb.2.1 k.size) hn5 hnx (hl5.keep fun b o hb => g4.cell hb) (((XK.out w4 (Lt.of (next0 k g4.1))).2).wide fun b hb => Nat.lt_of_lt_of_le hb.2.1 k.size))
  have FP : Hid ((!pre.isEmpty) = false → pre = []) := Lib.hid (by cases pre <;> simp)
  have FN : Hid ((!pre.isEmpty) = true → pre ≠ []) := Lib.hid (by cases pre <;> simp)
  have HBR := Lib.hid hbr
  have HBF := Lib.hid hbf
  have HBL := Lib.hid hbl
  have HCG : Hid (0 < cmpT u x.1 → ¬ cmpR (u, arrL m) x < 0) := Lib.hid (fun hc => cmp_gt (y := x.1) (k := x.2) hc)
  have HZZ : Hid ((x.1, x.2) = x) := Lib.hid rfl
  clear hsx hlx hnx hle hR hns h100 hVn hsrt hV1 hz hzl hnm hll k0 hbr hbf hbl hz0
  generalize hf : (!pre.isEmpty) = f at *
  generalize hc : cmpT u x.1 = c at *
  have HF := Lib.hid hf
  clear hf hc EC XK HZZ
  generalize hR' : cmpR (u, arrL m) x = z at *
  have HR' := Lib.hid hR'
  clear hR'
  unfold RepR at CA
  unfold RuO at CR
  generalize x.1.nm = xn at *
  generalize x.1.args.length = xa at *
  generalize x.2.length = xl at *
  generalize hun : u.nm = un at *
  have HUN := Lib.hid hun
  generalize hua : u.args.length = ua at *
  have HUA := Lib.hid hua
  generalize hln : l.length = ln at *
  generalize hah : h.args.length = ah at *
  have HLN := Lib.hid hln
  have HAH := Lib.hid hah
  clear hun hua hln hah
  obtain ⟨K, hK⟩ : ∃ K : Bool, K = (f && decide (0 < c)) := ⟨_, rfl⟩
  have HK := Lib.hid hK
  clear hK
  obtain ⟨a1, a2, a3, a4, a5, a6, a7⟩ := UnpP.has3 HBL.out
  obtain ⟨b1, b2, b3, b4, b5, b6, b7⟩ := UnpP.has3 HBR.out
  have c1 : w.cell? ⟨bf, 0, none⟩ = some (.bool f) := HBF.out.cell 0
  go_enter Tryz.func35, Tryz.ntmps35
  go_upto_region 0 with fail
  go_cut [16] (fun s16 wx => s16 = .bool K ∧ Hid (Below w.heap.size w wx))
  case first =>
    cases f
    · have hK := HK.out
      rw [Bool.false_and] at hK
      subst hK
      go_quiet (fail)
      go_wp2_with fail
      go_meet
      exact ⟨rfl, Lib.hid (below_drewN (Below.refl _ _) _)⟩
    · have hK := HK.out
      rw [Bool.true_and] at hK
      subst hK
      go_region_with (first
        | (go_at_call 36; refine (CA.out _ (by first | exact Below.refl _ _ | exact (Below.refl _ _).drew | exact below_drewN (Below.refl _ _) _)).mono ?_; rintro e w3 ⟨q3, d3, rfl, hS3, hn3, k3⟩; have K3 : Hid (Below w.heap.size w w3) := Lib.hid (by first | exact k3 | exact next0 (Below.refl _ _).drew k3 | exact next0 (below_drewN (Below.refl _ _) _) k3); have S3 := Lib.hid (hS3.weaken (ok' := (· < w3.heap.size)) fun b hb => hb.2); have N3 := Lib.hid hn3; clear hS3 hn3 k3; obtain ⟨z1, z2, z3, z4, z5, z6, z7⟩ := UnpP.has3 (HBL.out.step0 K3.out))
        | (go_at_call 27; refine (CC.out w3 K3.out _ S3.out N3.out _ (by first | exact Gr.refl _ | exact Gr.drew _ | exact Gr.drewN _ _)).mono ?_; rintro e w4 ⟨rfl, g4⟩; have K4 : Hid (Below w.heap.size w w4) := Lib.hid (by first | exact next0 K3.out g4.1 | exact next0 K3.out.drew g4.1 | exact next0 (below_drewN K3.out _) g4.1); clear g4))
      all_goals
        go_wp2_with fail
        go_meet
        exact ⟨rfl, K4⟩
  case rest =>
    obtain ⟨rfl, KC⟩ := hcut
    clear a1 a2 a3 a4 a5 a6 a7 b1 b2 b3 b4 b5 b6 b7 c1 CA CC
    cases K
    · clear HCG
      obtain ⟨b1, b2, b3, b4, b5, b6, b7⟩ := UnpP.has3 (HBR.out.step0 KC.out)
      go_wp2_with fail
      refine (CR.out _ KC.out).mono ?_
      rintro e w2 ⟨q2, d2, v2, R, L, rfl, hR1, hR2, hS2, hLm, hO2, hn2, k2⟩
      obtain ⟨p2, c2, rfl⟩ := hO2.form
      have hzc := KC.out.size
      have K2 := Lib.hid (next0 KC.out k2)
      have OW : Hid (∀ b, (Value.slice p2 L.length c2).ownBlock = some b → R ≤ b ∧ b < w2.heap.size) := Lib.hid hO2.1.lt
      have S2 : Hid (SlIn (fun b => w.heap.size ≤ b ∧ b < R) w2 u.args (.slice q2 ua d2)) := Lib.hid (hS2.weaken fun b hb => hb.elim False.elim fun h => ⟨by omega, h.2⟩)
      have N2 := Lib.hid hn2
      have LM := Lib.hid hLm
      have KW2 : w.heap.size ≤ w2.heap.size := K2.out.size
      have hwR : w.heap.size ≤ R := by omega
      have hll2 : L.length ≤ 1000 := by have := congrArg List.length hLm; rw [List.length_map] at this; have := ML.out; omega
      obtain ⟨W3, hW3⟩ : ∃ z, z = w2.alloc (.cells #[.string un, .slice q2 ua d2, .slice p2 L.length c2] 27) := ⟨_, rfl⟩
      have J3 : Hid (Below w2.heap.size w2 W3) := Lib.hid (by rw [hW3]; exact below_alloc _ _)
      have H3 : Hid (Has W3 w2.heap.size #[.string un, .slice q2 ua d2, .slice p2 L.length c2]) := Lib.hid (by rw [hW3]; exact Has.new _ _ _)
      have KA := Lib.hid (arranged_any (fun _ => False) R w2 W3 L _ hO2 J3.out hll2)
      unfold Arr at KA
      have K3 := Lib.hid (next0 K2.out J3.out)
      clear hS2 hLm hO2 hn2 k2 b1 b2 b3 b4 b5 b6 b7 CR hR1 hzc hll2
      generalize L.length = Ln at *
      obtain ⟨x1, x2, x3, x4, x5, x6, x7⟩ := UnpP.has3 H3.out
      go_upto_region 2 with fail
      rw [← hW3]
      clear hW3
      go_wp2_with fail
      refine KA.out.mono ?_
      rintro e w4 ⟨p4, c4, C, rfl, hCm, hCr, hLt⟩
      have hs3 : w2.heap.size + 1 ≤ W3.heap.size := H3.out.lt
      have P4 := Lib.hid hLt
      have X4 : Hid (LigY.Lt (fun b => b = bl ∨ b = bf) w w4) := Lib.hid (lt_trans2 (Lt.of K3.out) hLt fun i hi => Or.inr (by have := (OW.out i hi).1; omega))
      have K4 : Hid (Below w.heap.size w w4) := Lib.hid (K3.out.trans (hLt.toBelow (by omega) fun i hi => by have := (OW.out i hi).1; omega))
      have H4 := Lib.hid (hLt.has H3.out (fun e => by have := (OW.out _ e).2; omega))
      have CM : Hid (C.map (·.1) = arrL m) := Lib.hid (by rw [hCm, LM.out])
      have CW : Hid (RowG KL (fun b => w.heap.size ≤ b ∧ b < w2.heap.size) w4 C (.slice p4 C.length c4)) := Lib.hid (hCr.wide fun b hb => hb.elim False.elim fun h => ⟨by omega, h.2⟩)
      have D4 := Lib.hid (S2.out.frame (w' := w4) fun b o hb => (hLt.cell (g := b) (by omega) (fun e => by have := (OW.out b e).1; omega)).trans (J3.out.cell (p := ⟨b, o, none⟩) (show b < w2.heap.size by omega)))
      clear hCm hCr hLt KA x1 x2 x3 x4 x5 x6 x7 J3 H3
      obtain ⟨W5, hW5⟩ : ∃ z, z = w4.setCell ⟨w2.heap.size, 2, none⟩ (.slice p4 C.length c4) := ⟨_, rfl⟩
      have KW5 : Hid (Below w.heap.size w W5) := Lib.hid (by rw [hW5]; exact K4.out.setCell (p := ⟨w2.heap.size, 2, none⟩) KW2 _)
      have B5W5 : Hid (Has W5 w2.heap.size #[.string un, .slice q2 ua d2, .slice p4 C.length c4]) := Lib.hid (by rw [hW5]; exact H4.out.set 2 _)
      have SW5 : w2.heap.size ≤ W5.heap.size := by have := B5W5.out.lt; omega
      have DW5 : Hid (SlIn (fun b => w.heap.size ≤ b ∧ b < w2.heap.size) W5 u.args (.slice q2 ua d2)) := Lib.hid ((D4.out.frame (w' := W5) fun b o hb => by rw [hW5]; exact (World.cell?_setCell_far _ _ _ _ (by show w2.heap.size ≠ b; omega))).weaken fun b hb => ⟨hb.1, by omega⟩)
      have MW5 : Hid (LIn (fun b => w.heap.size ≤ b ∧ b < w2.heap.size) W5 (arrL m) (.slice p4 C.length c4)) := Lib.hid ⟨C, CM.out, CW.out.keep fun b o hb => by rw [hW5]; exact (World.cell?_setCell_far _ _ _ _ (by show w2.heap.size ≠ b; omega))⟩
      have FW5 := Lib.hid (HBF.out.step0 KW5.out)
      have LW5 := Lib.hid (HBL.out.step0 KW5.out)
      obtain ⟨x1, x2, x3, x4, x5, x6, x7⟩ := UnpP.has3 H4.out
      go_upto_region 3 with fail
      rw [← hW5]
      clear hW5 x1 x2 x3 x4 x5 x6 x7 D4 CM CW H4 X4 K4 P4
      cases f
      · have HP0 := Lib.hid (FP.out (by first | rfl | trivial))
        obtain ⟨W6, hW6⟩ : ∃ z, z = (((W5.setCell ⟨bl, 0, none⟩ (.string un)).setCell ⟨bl, 1, none⟩ (.slice q2 ua d2)).setCell ⟨bl, 2, none⟩ (.slice p4 C.length c4)).setCell ⟨bf, 0, none⟩ (.bool true) := ⟨_, rfl⟩
        have X6 : Hid (LigY.Lt (fun b => b = bl ∨ b = bf) w W6) := Lib.hid (by rw [hW6]; exact ((((Lt.of KW5.out).put (p := ⟨bl, 0, none⟩) (Or.inl (Or.inl rfl)) _).put (p := ⟨bl, 1, none⟩) (Or.inl (Or.inl rfl)) _).put (p := ⟨bl, 2, none⟩) (Or.inl (Or.inl rfl)) _).put (p := ⟨bf, 0, none⟩) (Or.inl (Or.inr rfl)) _)
        have P6 : Hid (LigY.Lt (fun b => b = bl ∨ b = bf) W5 W6) := Lib.hid (by rw [hW6]; exact ((((Lt.of (Below.refl _ _)).put (p := ⟨bl, 0, none⟩) (Or.inl (Or.inl rfl)) _).put (p := ⟨bl, 1, none⟩) (Or.inl (Or.inl rfl)) _).put (p := ⟨bl, 2, none⟩) (Or.inl (Or.inl rfl)) _).put (p := ⟨bf, 0, none⟩) (Or.inl (Or.inr rfl)) _)
        have HBL6 := UnmH.put3 LW5.out (.string un) (.slice q2 ua d2) (.slice p4 C.length c4)
        have B6 : Hid (Has W6 bf #[.bool true]) := Lib.hid (by rw [hW6]; exact (((FW5.out.far (p := ⟨bl, 0, none⟩) n2 _).far (p := ⟨bl, 1, none⟩) n2 _).far (p := ⟨bl, 2, none⟩) n2 _).set 0 _)
        have B7 : Hid (Has W6 bl #[.string un, .slice q2 ua d2, .slice p4 C.length c4]) := Lib.hid (by rw [hW6]; exact HBL6.far (p := ⟨bf, 0, none⟩) (fun e => n2 e.symm) _)
        have E6 : Hid (PP w0 S g bf br bl V h l (.slice pa ah ca) (.slice pl ln cl) (pre ++ [ns]) W6 ∧ Rw W6 g V ns ∧ LigY.Lt (fun b => b = bl ∨ b = bf) w W6) := Lib.hid (FS.out W6 X6.out q2 d2 _ w2.heap.size KW2 (Nat.le_trans SW5 (P6.out.size)) B6.out B7.out
          ((DW5.out.frame fun b o hb => P6.out.cell (Nat.lt_of_lt_of_le hb.2 SW5) (by have := hb.1; omega)).weaken fun b hb => hb)
          (MW5.out.keep fun b o hb => P6.out.cell (Nat.lt_of_lt_of_le hb.2 SW5) (by have := hb.1; omega)) N2.out (fun e => absurd HP0.out e))
        obtain ⟨f1, f2, f3, f4, f5, f6, f7⟩ := UnpP.has3 LW5.out
        obtain ⟨o1, o2, o3, o4, o5, o6, o7⟩ := UnpP.has3 B5W5.out
        have v1 : W5.cell? ⟨bf, 0, none⟩ = some (.bool false) := FW5.out.cell 0
        have v2 : W5.frozen? ⟨bf, 0, none⟩ = false := FW5.out.free 0
        have v3 : bf < W5.heap.size := FW5.out.lt
        have HW6 := Lib.hid hW6
        clear X6 P6 HBL6 B6 B7 hW6
        go_wp2_with fail
        refine bodyPost_end (v := .tuple #[]) (by simp [results, Tryz.results35, go_sem]) rfl ⟨rfl, ?_⟩
        rw [← HW6.out]
        exact E6.out
      · have CQ5 := Lib.hid (CQ.out W5 KW5.out _ _ (DW5.out.weaken fun b hb => Nat.lt_of_lt_of_le hb.2 SW5) (MW5.out.wide fun b hb => Nat.lt_of_lt_of_le hb.2 SW5) N2.out W5 (Gr.refl _))
        obtain ⟨f1, f2, f3, f4, f5, f6, f7⟩ := UnpP.has3 LW5.out
        obtain ⟨o1, o2, o3, o4, o5, o6, o7⟩ := UnpP.has3 B5W5.out
        have v1 : W5.cell? ⟨bf, 0, none⟩ = some (.bool true) := FW5.out.cell 0
        have v2 : W5.frozen? ⟨bf, 0, none⟩ = false := FW5.out.free 0
        have v3 : bf < W5.heap.size := FW5.out.lt
        go_wp2_with fail
        refine CQ5.out.mono ?_
        rintro e w7 ⟨rfl, g7⟩
        have Kw7 := Lib.hid (next0 KW5.out g7.1)
        have Lw7 := Lib.hid (LW5.out.step0 g7.1)
        have B5w7 := Lib.hid (B5W5.out.step0 g7.1)
        have Fw7 := Lib.hid (FW5.out.step0 g7.1)
        have Sw7 : w2.heap.size ≤ w7.heap.size := Nat.le_trans SW5 g7.1.size
        have Dw7 := Lib.hid (DW5.out.frame (w' := w7) fun b o hb => g7.cell (Nat.lt_of_lt_of_le hb.2 SW5))
        have Mw7 := Lib.hid (MW5.out.keep (w' := w7) fun b o hb => g7.cell (Nat.lt_of_lt_of_le hb.2 SW5))
        clear g7 f1 f2 f3 f4 f5 f6 f7 o1 o2 o3 o4 o5 o6 o7 v1 v2 v3 CQ5 KW5 LW5 B5W5 FW5 SW5 DW5 MW5
        by_cases hz : z < 0
        · have hz1 : decide (z < 0) = true := by simpa using hz
          obtain ⟨W6, hW6⟩ : ∃ z, z = (((w7.setCell ⟨bl, 0, none⟩ (.string un)).setCell ⟨bl, 1, none⟩ (.slice q2 ua d2)).setCell ⟨bl, 2, none⟩ (.slice p4 C.length c4)).setCell ⟨bf, 0, none⟩ (.bool true) := ⟨_, rfl⟩
          have X6 : Hid (LigY.Lt (fun b => b = bl ∨ b = bf) w W6) := Lib.hid (by rw [hW6]; exact ((((Lt.of Kw7.out).put (p := ⟨bl, 0, none⟩) (Or.inl (Or.inl rfl)) _).put (p := ⟨bl, 1, none⟩) (Or.inl (Or.inl rfl)) _).put (p := ⟨bl, 2, none⟩) (Or.inl (Or.inl rfl)) _).put (p := ⟨bf, 0, none⟩) (Or.inl (Or.inr rfl)) _)
          have P6 : Hid (LigY.Lt (fun b => b = bl ∨ b = bf) w7 W6) := Lib.hid (by rw [hW6]; exact ((((Lt.of (Below.refl _ _)).put (p := ⟨bl, 0, none⟩) (Or.inl (Or.inl rfl)) _).put (p := ⟨bl, 1, none⟩) (Or.inl (Or.inl rfl)) _).put (p := ⟨bl, 2, none⟩) (Or.inl (Or.inl rfl)) _).put (p := ⟨bf, 0, none⟩) (Or.inl (Or.inr rfl)) _)
          have HBL6 := UnmH.put3 Lw7.out (.string un) (.slice q2 ua d2) (.slice p4 C.length c4)
          have B6 : Hid (Has W6 bf #[.bool true]) := Lib.hid (by rw [hW6]; exact (((Fw7.out.far (p := ⟨bl, 0, none⟩) n2 _).far (p := ⟨bl, 1, none⟩) n2 _).far (p := ⟨bl, 2, none⟩) n2 _).set 0 _)
          have B7 : Hid (Has W6 bl #[.string un, .slice q2 ua d2, .slice p4 C.length c4]) := Lib.hid (by rw [hW6]; exact HBL6.far (p := ⟨bf, 0, none⟩) (fun e => n2 e.symm) _)
          have E6 : Hid (PP w0 S g bf br bl V h l (.slice pa ah ca) (.slice pl ln cl) (pre ++ [ns]) W6 ∧ Rw W6 g V ns ∧ LigY.Lt (fun b => b = bl ∨ b = bf) w W6) := Lib.hid (FS.out W6 X6.out q2 d2 _ w2.heap.size KW2 (Nat.le_trans Sw7 (P6.out.size)) B6.out B7.out
            ((Dw7.out.frame fun b o hb => P6.out.cell (Nat.lt_of_lt_of_le hb.2 Sw7) (by have := hb.1; omega)).weaken fun b hb => hb)
            (Mw7.out.keep fun b o hb => P6.out.cell (Nat.lt_of_lt_of_le hb.2 Sw7) (by have := hb.1; omega)) N2.out (fun _ => by exact hz))
          obtain ⟨f1, f2, f3, f4, f5, f6, f7⟩ := UnpP.has3 Lw7.out
          obtain ⟨o1, o2, o3, o4, o5, o6, o7⟩ := UnpP.has3 B5w7.out
          have v1 : w7.cell? ⟨bf, 0, none⟩ = some (.bool true) := Fw7.out.cell 0
          have v2 : w7.frozen? ⟨bf, 0, none⟩ = false := Fw7.out.free 0
          have v3 : bf < w7.heap.size := Fw7.out.lt
          have HW6 := Lib.hid hW6
          clear X6 P6 HBL6 B6 B7 hW6
          go_wp2_with fail
          refine bodyPost_end (v := .tuple #[]) (by simp [results, Tryz.results35, go_sem]) rfl ⟨rfl, ?_⟩
          rw [← HW6.out]
          exact E6.out
        · have hz1 : decide (z < 0) = false := by simpa using hz
          have E9 := Lib.hid (FK.out w7 Kw7.out (FN.out (by first | rfl | trivial)) (by omega))
          clear hz
          go_wp2_with fail
          refine bodyPost_end (v := .tuple #[]) (by simp [results, Tryz.results35, go_sem]) rfl ⟨rfl, E9.out⟩
    · have hK := HK.out
      have hft : f = true := by cases f <;> simp at hK ⊢
      have hcp : 0 < c := by subst hft; simpa using hK
      have E9 : Hid (PP w0 S g bf br bl V h l (.slice pa ah ca) (.slice pl ln cl) (pre ++ [ns]) wc ∧ Rw wc g V ns ∧ LigY.Lt (fun b => b = bl ∨ b = bf) w wc) := Lib.hid (FK.out wc KC.out (FN.out hft) (HCG.out hcp))
      clear hK hft hcp
      go_wp2_with fail
      refine bodyPost_ret (v := .tuple #[]) (by simp [results, Tryz.results35, go_sem]) rfl ⟨rfl, E9.out⟩
end NosE
end Go.Proofs.YtikkaiiinkeobaaGreatDoor
