/- The reference's Rule: a rule's normal form, or the error. No conditions but the head's name of an int's length. Made by gennoln.py. -/
import Derived.Test.YtdkpflojdnkbnaaGreatDoorHNolK
import Derived.Test.YtdkpflojdnkbnaaGreatDoorHNolM
import Derived.Test.YtdkpflojdnkbnaaGreatDoorHCD
import Derived.Test.YtdkpflojdnkbnaaGreatDoorHBB
import Derived.Test.YtdkpflojdnkbnaaGreatDoorHAY
import Derived.Test.YtdkpflojdnkbnaaGreatDoorHAL
import Derived.Test.YtdkpflojdnkbnaaGreatDoorHAO
namespace Go.Proofs.YtdkpflojdnkbnaaGreatDoor
open Go Go.RowKit
namespace NolN
open Kit LexM TermM TermI TermN TermU TermL TermE TermF UniK UniM UniA UniE UniR UniJ UnmA UnpP UnqA UnrA NorB NorC NorM NorP NorQ NorR NosS NosQ NosF NolL NolM LigY
/-! ### Plain facts -/
/-- The variables as the reference lists them. -/
def RVs (r : Rl) : List ByteArray := varsOf (leavesL (atsL r.1 r.2))
theorem rvs_vars (r : Rl) : IsVars r (RVs r) := ⟨vars_nodup _, fun n => (vars_mem (xs := leavesL (atsL r.1 r.2)) (v := n)).trans And.comm⟩
theorem rvs_len (r : Rl) : (RVs r).length = (VsR r).length := (vars_perm (rvs_vars r) (vsr_vars r)).length_eq
/-- The rule for one order of the numbers. -/
def cndO (V : List ByteArray) (r : Rl) (y : List Nat) : Rl := cnd V r (y.map nmT)
theorem nf_ord {r x : Rl} (h0 : codeN r = 0) (h : LeastOf ((ordP (RVs r).length).map (cndO (RVs r) r)) x) : NfOf r x := by
  refine ⟨fun _ => nf_perm (vars_perm (rvs_vars r) (vsr_vars r)) ?_, fun e => absurd h0 e⟩
  refine (nf_iff (rvs_vars r).1 _ (fun u => ord_terms _ u)).2 ?_
  rw [List.map_map]
  exact h
theorem least_first {us : List (List Nat)} {f : List Nat → Rl} {y : List Nat} (h : us[0]? = some y) : LeastOf ((us.take 1).map f) (f y) := by
  rw [take_get us 0 y h]
  refine ⟨by simp, fun z hz => ?_⟩
  obtain rfl : z = f y := by simpa using hz
  have := (r_zero (f y) (f y)).2 rfl
  omega
theorem least_next {us : List (List Nat)} {f : List Nat → Rl} {y : List Nat} {k : Nat} {x : Rl} (h : us[k]? = some y) (hx : LeastOf ((us.take k).map f) x) :
    (cmpR (f y) x < 0 → LeastOf ((us.take (k + 1)).map f) (f y)) ∧ (¬ cmpR (f y) x < 0 → LeastOf ((us.take (k + 1)).map f) x) := by
  rw [take_get us k y h, List.map_append]
  exact least_snoc hx
def bndK (V : List ByteArray) (y : List Nat) (k : Nat) : List Bd := (V.zip (y.map nmT)).take k
theorem bnd_next {V : List ByteArray} {y : List Nat} {k : Nat} {v : ByteArray} {j : Nat} (hv : V[k]? = some v) (hj : y[k]? = some j) : bndK V y (k + 1) = bndK V y k ++ [(v, nmT j)] := by
  unfold bndK
  refine take_get _ k _ ?_
  rw [List.getElem?_zip_eq_some]
  exact ⟨hv, by rw [List.getElem?_map, hj]; rfl⟩
theorem bnd_all {V : List ByteArray} {y : List Nat} {n : Nat} (hV : V.length = n) : bndK V y n = V.zip (y.map nmT) := by
  unfold bndK
  exact List.take_of_length_le (by rw [List.length_zip]; omega)
theorem bnd_len {V : List ByteArray} {y : List Nat} {n k : Nat} (hV : V.length = n) (hy : y.length = n) (hk : k ≤ n) : (bndK V y k).length = k := by
  unfold bndK
  rw [List.length_take, List.length_zip, List.length_map]
  omega
theorem zip_args {V : List ByteArray} {y : List Nat} : ∀ b ∈ V.zip (y.map nmT), b.2.args = [] := fun b hb => by
  obtain ⟨_, h2⟩ := List.of_mem_zip hb
  obtain ⟨j, _, e⟩ := List.mem_map.1 h2
  rw [← e]
  rfl
theorem zip_var {r : Rl} {y : List Nat} : ∀ b ∈ (RVs r).zip (y.map nmT), varB b.1 = true := fun b hb => by
  obtain ⟨h1, _⟩ := List.of_mem_zip hb
  exact (vars_mem.1 h1).2
theorem ats_sz {r : Rl} (h : vlB r = true) : sizeL (atsL r.1 r.2) ≤ 1000000 := by
  obtain ⟨h1, h2, h3⟩ := vl_parts h
  have := sizeL_le (m := 85) (atsL r.1 r.2) (fun t ht => by
    unfold atsL at ht
    rcases List.mem_cons.1 ht with rfl | ht
    · exact h2
    · obtain ⟨x, hx, rfl⟩ := List.mem_map.1 ht
      exact h3 x hx)
  have e : (atsL r.1 r.2).length = r.2.length + 1 := by simp [atsL]
  rw [e] at this
  omega
theorem cnd_parts (V : List ByteArray) (h : Tm) (l : List Lt) (y : List Nat) : cndO V (h, l) y = (appT (V.zip (y.map nmT)) h, arrL (atomsL (appT (V.zip (y.map nmT))) l)) := rfl
theorem vars_size {xs : List ByteArray} {v : ByteArray} (h : v ∈ varsOf xs) : v.size ≤ 16 := by
  have h := (vars_mem.1 h).2
  unfold varB varL at h
  simp only [Bool.and_eq_true, decide_eq_true_eq] at h
  exact h.1.1
theorem ownq_below {base : Nat} {w w' : World} {L : List (Bd × Value)} {v : Value} (h : OwnQ base w L v) (g : Below w.heap.size w w') (hb : base ≤ w.heap.size) : OwnQ base w' L v :=
  ⟨own_below h.1 g, fun x hx => KB.keep (h.2 x hx) fun b o hlt => g.cell (p := ⟨b, o, none⟩) (Nat.lt_of_lt_of_le hlt hb)⟩
theorem ats_len (f : Tm → Tm) (l : List Lt) : (atomsL f l).length = l.length := by simp [atomsL]
theorem row_at {n k : Nat} {ok : Nat → Prop} {w : World} {L : List (List Nat × Value)} {p : Option Addr} {c : Nat} (h : RowI ok w L (.slice p L.length c)) (hL : L.map (·.1) = ordP n) (hk : k < L.length) :
    ∃ (y : List Nat) (g0 : Nat) (py : Option Addr) (cy : Nat), (ordP n)[k]? = some y ∧ y.length = n ∧ p = some ⟨g0, 0, none⟩ ∧ ok g0 ∧ w.cell? ⟨g0, k, none⟩ = some (.slice py n cy) ∧ (0 < n → ∃ gy, py = some ⟨gy, 0, none⟩ ∧ ok gy ∧ ∀ (j i : Nat), y[j]? = some i → w.cell? ⟨gy, j, none⟩ = some (.int .i64 (i : Int))) := by
  obtain ⟨y, vy, h1, h2, h3⟩ := ord_row hL hk
  obtain ⟨p9, c9, e9, r2, r3, r4, r5⟩ := h
  injection e9 with e91 e92 e93
  subst e91 e93
  obtain ⟨g0, rfl, hg0, r6⟩ := r5 (by omega)
  have hrow := r6 k _ h1
  obtain ⟨py, cy, hvy, y1, y2, y3, y4⟩ := r4 _ (List.mem_of_getElem? h1)
  dsimp only at hvy y1 y3 y4 hrow
  subst hvy
  rw [h3] at hrow y4
  exact ⟨y, g0, py, cy, h2, h3, rfl, hg0, hrow, y4⟩
set_option maxRecDepth 100000 in
set_option maxHeartbeats 6400000 in
theorem rrule_any (h : Tm) (l : List Lt) (B : Nat) (w : World) (hv lv : Value) (hB : B ≤ w.heap.size) (hh : SlIn (· < B) w h.args hv) (hl : LIn (· < B) w l lv) (hnm : h.nm.size ≤ maxLen) :
    Calls Tryz.prog 15 #[.agg #[.string h.nm, hv, lv]] w (NfR (h, l) w) := by
  obtain ⟨i0, hi, hz0, hz1, hz2⟩ := info_parts infoB
  obtain ⟨pa, ca, rfl⟩ := hh.form
  obtain ⟨pl, cl, rfl⟩ := hl.form
  obtain ⟨W2, hW2⟩ : ∃ W2, W2 = (w.alloc (.cells #[.string h.nm, .slice pa h.args.length ca, .slice pl l.length cl] 27)).alloc (.cells #[.string ⟨#[]⟩, .slice none 0 0, .slice none 0 0] 27) := ⟨_, rfl⟩
  have B2 : Hid (Below w.heap.size w W2) := Lib.hid (by rw [hW2]; exact next0 (below_alloc _ _) (below_alloc _ _))
  have H2 : Hid (Has W2 w.heap.size #[.string h.nm, .slice pa h.args.length ca, .slice pl l.length cl]) := Lib.hid (by rw [hW2]; exact (Has.new w _ _).alloc _)
  have E2 : Hid (Has W2 (w.heap.size + 1) #[.string ⟨#[]⟩, .slice none 0 0, .slice none 0 0]) := Lib.hid (by rw [hW2]; exact Has.new1 w _ _ _)
  have hs2 : w.heap.size + 2 ≤ W2.heap.size := by rw [hW2]; simp
  have HS := Lib.hid (fun w' (k : Below w.heap.size w w') => hh.deep k hB)
  have HL := Lib.hid (fun w' (k : Below w.heap.size w w') => hl.keep (w' := w') fun b o hb => k.cell (p := ⟨b, o, none⟩) (Nat.lt_of_lt_of_le hb hB))
  have CV := Lib.hid (rvalid_any (h, l) B W2 _ _ (by omega) hnm (HS.out W2 B2.out) (HL.out W2 B2.out))
  have VZ : Hid (vlB (h, l) = true → codeN (h, l) = if 5 < (RVs (h, l)).length then 11 else 0) := Lib.hid (fun e => by unfold codeN; rw [if_pos e, rvs_len])
  have VN : Hid (vlB (h, l) = false → codeN (h, l) = 13) := Lib.hid (fun e => by unfold codeN; rw [if_neg (by rw [e]; simp)])
  have VP := Lib.hid (fun e => vl_parts (r := (h, l)) e)
  have SW := Lib.hid (fun w' (k : Below w.heap.size w w') => (HS.out w' k).weaken (ok' := (· < w'.heap.size)) fun b hb => Nat.lt_of_lt_of_le (Nat.lt_of_lt_of_le hb hB) k.size)
  have LW := Lib.hid (fun w' (k : Below w.heap.size w w') => (HL.out w' k).wide (ok' := (· < w'.heap.size)) fun b hb => Nat.lt_of_lt_of_le (Nat.lt_of_lt_of_le hb hB) k.size)
  have VC := Lib.hid (fun (e : vlB (h, l) = true) w' (k : Below w.heap.size w w') => show Calls Tryz.prog 40 #[.agg #[.string h.nm, .slice pa h.args.length ca, .slice pl l.length cl]] w' (Vrs (RVs (h, l)) w') from UnrG.rvars_rule h l w' _ _ (SW.out w' k) (LW.out w' k) hnm (by have := (vl_parts e).1; exact Nat.le_trans this (by omega)) (ats_sz e))
  have CB := Lib.hid (fun (e : vlB (h, l) = true) (y : List Nat) w' sv (k : Below w.heap.size w w') (hss : SIn (· < w'.heap.size) w' ((RVs (h, l)).zip (y.map nmT)) sv) => UnrJ.rar_any0 _ zip_args (zip_var (r := (h, l)) (y := y)) h l w' sv _ _ hss (SW.out w' k) (LW.out w' k) hnm (by have := (vl_parts e).1; exact Nat.le_trans this (by omega)) (Nat.le_trans (vl_parts e).2.1 (by omega)) (fun x hx => Nat.le_trans ((vl_parts e).2.2 x hx) (by omega)))
  have NO := Lib.hid (fun x (e : codeN (h, l) = 0) hx => nf_ord (r := (h, l)) (x := x) e hx)
  have CP := Lib.hid (fun y => cnd_parts (RVs (h, l)) h l y)
  have VS : Hid (∀ v ∈ RVs (h, l), v.size ≤ 16) := Lib.hid (fun v hv => vars_size hv)
  clear hh hl HS HL hnm SW LW
  generalize hvb : vlB (h, l) = vb at *
  clear hvb
  generalize hV : RVs (h, l) = V at *
  clear hV
  obtain ⟨b1, b2, b3, b4, b5, b6, b7⟩ := UnpP.has3 H2.out
  go_enter Tryz.func15, Tryz.ntmps15
  go_upto_region 1 with fail
  rw [← hW2]
  clear hW2
  go_wp2_with fail
  refine CV.out.mono ?_
  rintro e w3 ⟨rfl, g3⟩
  have K3 := Lib.hid (next0 B2.out g3.1)
  have H3 := Lib.hid (H2.out.step0 g3.1)
  have E3 := Lib.hid (E2.out.step0 g3.1)
  clear g3 b1 b2 b3 b4 b5 b6 b7 H2 E2 CV B2
  cases vb
  · have C13 := Lib.hid (VN.out rfl)
    obtain ⟨f1, f2, f3, f4, f5, f6, f7⟩ := UnpP.has3 E3.out
    have R6 := UnmH.put3 E3.out (.string ⟨#[]⟩) (.slice none 0 0) (.slice none 0 0)
    obtain ⟨r1, r2, r3⟩ := UniA.three R6
    have K6 := Lib.hid (((K3.out.setCell (p := ⟨w.heap.size + 1, 0, none⟩) (by simp) (.string ⟨#[]⟩)).setCell (p := ⟨w.heap.size + 1, 1, none⟩) (by simp) (.slice none 0 0)).setCell (p := ⟨w.heap.size + 1, 2, none⟩) (by simp) (.slice none 0 0))
    clear R6 VZ VC VP CB NO CP VS
    go_wp2_with fail
    refine bodyPost_ret (v := .tuple #[.agg #[.string ⟨#[]⟩, .slice none 0 0, .slice none 0 0], .int .i64 13]) (by simp [results, Tryz.results15, go_sem, r1, r2, r3]) rfl ?_
    exact nfr_zero C13.out (by decide) K6.out
  · have VC3 := Lib.hid (VC.out rfl w3 K3.out)
    have C11 := Lib.hid (VZ.out rfl)
    have P8 := Lib.hid (VP.out rfl)
    have CB1 := Lib.hid (CB.out rfl)
    clear VN VC VP VZ CB
    unfold Vrs at VC3
    obtain ⟨b1, b2, b3, b4, b5, b6, b7⟩ := UnpP.has3 H3.out
    generalize hn : V.length = n at *
    have HN := Lib.hid hn
    clear hn
    go_wp2_with fail
    refine VC3.out.mono ?_
    rintro e w4 ⟨v4, base4, rfl, hst, hb4, k4⟩
    obtain ⟨a9, c9, rfl⟩ := row_form hst
    have K4 := Lib.hid (next0 K3.out k4)
    have H4 := Lib.hid (H3.out.step0 k4)
    have E4 := Lib.hid (E3.out.step0 k4)
    have hs34 := k4.size
    have hs24 : w.heap.size + 2 ≤ w4.heap.size := by have := E4.out.lt; omega
    have ST := Lib.hid hst
    have STK : Hid (∀ k, (Value.slice a9 n c9).ownBlock = some k → k < w4.heap.size) := Lib.hid (fun k e => (hst.lt k e).2)
    clear k4 hst b1 b2 b3 b4 b5 b6 b7 H3 E3 VC3
    by_cases h5 : 5 < n
    · have h5' : (5 : Int) < n := by omega
      rw [if_pos h5] at C11
      obtain ⟨f1, f2, f3, f4, f5, f6, f7⟩ := UnpP.has3 E4.out
      have R6 := UnmH.put3 E4.out (.string ⟨#[]⟩) (.slice none 0 0) (.slice none 0 0)
      obtain ⟨r1, r2, r3⟩ := UniA.three R6
      have K6 := Lib.hid (((K4.out.setCell (p := ⟨w.heap.size + 1, 0, none⟩) (by simp) (.string ⟨#[]⟩)).setCell (p := ⟨w.heap.size + 1, 1, none⟩) (by simp) (.slice none 0 0)).setCell (p := ⟨w.heap.size + 1, 2, none⟩) (by simp) (.slice none 0 0))
      clear R6 P8 CB1 NO CP VS
      go_wp2_with fail
      refine bodyPost_ret (v := .tuple #[.agg #[.string ⟨#[]⟩, .slice none 0 0, .slice none 0 0], .int .i64 11]) (by simp [results, Tryz.results15, go_sem, r1, r2, r3]) rfl ?_
      exact nfr_zero C11.out (by decide) K6.out
    · have h5' : ¬ (5 : Int) < n := by omega
      rw [if_neg h5] at C11
      have OA := Lib.hid (fun w' => orders_any n (by omega) w')
      unfold OrdQ at OA
      go_wp2_with fail
      refine (OA.out _).mono ?_
      rintro e w5 ⟨L, pL, cL, rfl, hL, hR, k5⟩
      have K5 := Lib.hid (next0 K4.out k5)
      have H5 := Lib.hid (H4.out.step0 k5)
      have E5 := Lib.hid (E4.out.step0 k5)
      have ST5 := Lib.hid (own_below ST.out k5)
      have hs45 := k5.size
      have HLL := Lib.hid hL
      have HRR := Lib.hid hR
      have hap : 0 < L.length := by have := ordP_pos n; rw [← hL, List.length_map] at this; exact this
      have hal : Hid (L.length = (ordP n).length) := Lib.hid (by rw [← hL, List.length_map])
      clear k5 hL hR OA ST H4 E4
      obtain ⟨P, hP⟩ : ∃ m, m = w5.heap.size := ⟨_, rfl⟩
      obtain ⟨W6, hW6⟩ : ∃ z, z = w5.alloc (.cells #[.string ⟨#[]⟩, .slice none 0 0, .slice none 0 0] 27) := ⟨_, rfl⟩
      have J6 : Hid (Below w5.heap.size w5 W6) := Lib.hid (by rw [hW6]; exact below_alloc _ _)
      have L6 : Hid (Has W6 P #[.string zeroR.1.nm, .slice none zeroR.1.args.length 0, .slice none 0 0]) := Lib.hid (by rw [hW6, hP]; exact Has.new _ _ _)
      have hs6 : W6.heap.size = P + 1 := by rw [hW6, hP]; simp
      have K6 := Lib.hid (next0 K5.out J6.out)
      have H6 := Lib.hid (H5.out.step0 J6.out)
      have E6 := Lib.hid (E5.out.step0 J6.out)
      have ST6 := Lib.hid (own_below ST5.out J6.out)
      have hPP : w4.heap.size ≤ P := by omega
      have RW : Hid (∀ w', Lt (fun b => b = P) W6 w' → RowI (fun b => w4.heap.size ≤ b ∧ b < w5.heap.size) w' L (.slice pL L.length cL)) := Lib.hid (fun w' k => HRR.out.keep fun b o hb => (k.cell (by omega) (by omega)).trans (J6.out.cell (p := ⟨b, o, none⟩) hb.2))
      obtain ⟨a, ha⟩ : ∃ a, a = L.length := ⟨_, rfl⟩
      have HLA := Lib.hid ha
      go_upto_region 8 with fail
      rw [← hW6, ← hP]
      have ha120 : a ≤ 120 := by have h1 := ordP_len n (by omega); have h2 := hal.out; omega
      have hP1 : P ≤ w5.heap.size := by omega
      have hP2 : w5.heap.size ≤ P := by omega
      clear hW6 J6 H5 E5 ST5 HRR hP
      rw [← ha]
      rw [← ha] at hap
      clear ha
      go_wp2_with fail
      go_loopw [7] (fun i wr => ∃ (k : Nat) (x : Rl) (q : Option Addr) (d : Nat) (v : Value), k ≤ a ∧ i = .int .i64 k ∧ Hid (0 < k → LeastOf (((ordP n).take k).map (cndO V (h, l))) x) ∧ Hid (Has wr P #[.string x.1.nm, .slice q x.1.args.length d, v]) ∧ Hid (SlIn (fun b => P < b ∧ b < wr.heap.size) wr x.1.args (.slice q x.1.args.length d)) ∧ Hid (LIn (fun b => P < b ∧ b < wr.heap.size) wr x.2 v) ∧ Hid (x.1.nm.size ≤ maxLen) ∧ Hid (Lt (fun b => b = P) W6 wr)) (fun i _ => a - (intOf i).toNat)
      case atStart => exact ⟨0, zeroR, none, 0, .slice none 0 0, Nat.zero_le _, rfl, Lib.hid (fun h => by omega), L6, Lib.hid (SlIn.none _ _), Lib.hid (LIn.nil _ _), Lib.hid (Nat.zero_le _), Lib.hid (Lt.of (Below.refl _ _))⟩
      case round =>
        clear L6
        obtain ⟨k, x, q, d, v, hk, rfl, hLe, hBx, hSx, hLx, hNx, hX⟩ := hrel
        obtain ⟨xp, xc, rfl⟩ := hLx.out.form
        have K7 := Lib.hid (K6.out.trans (hX.out.toBelow (B := w.heap.size) (by omega) (fun i e => by omega)))
        have hz7 := hX.out.size
        by_cases hlt : k < a
        · obtain ⟨y, g0, py, cy, hy1, hy2, rfl, hg0, hrow, hyc⟩ := row_at (RW.out wr hX.out) HLL.out (show k < L.length by rw [← HLA.out]; exact hlt)
          have HY1 := Lib.hid hy1
          have HY2 := Lib.hid hy2
          obtain ⟨w7, hw7⟩ : ∃ z, z = wr := ⟨_, rfl⟩
          subst hw7
          have HYR : Hid (w7.cell? ⟨g0, k, none⟩ = some (.slice py n cy) ∧ g0 < w7.heap.size) := Lib.hid ⟨hrow, by omega⟩
          have HYC : Hid (0 < n → ∃ gy, py = some ⟨gy, 0, none⟩ ∧ gy < w7.heap.size ∧ ∀ (j i : Nat), y[j]? = some i → w7.cell? ⟨gy, j, none⟩ = some (.int .i64 (i : Int))) := Lib.hid (fun h => by obtain ⟨gy, e1, e2, e3⟩ := hyc h; exact ⟨gy, e1, by omega, e3⟩)
          have ST7 : Hid (w7.ownsRow base4 9 1 (.slice a9 n c9) n (strs V)) := Lib.hid (NolK.own_lt ST6.out hX.out (fun k e he => by have := STK.out k e; omega))
          clear hy1 hy2 hrow hyc
          go_wp2_with fail
          go_loopw [8, 9] (fun u8 j wr => ∃ (k2 : Nat) (F : List (Bd × Value)), k2 ≤ n ∧ j = .int .i64 k2 ∧ Hid (F.map (·.1) = bndK V y k2) ∧ Hid (OwnQ w7.heap.size wr F u8) ∧ Hid (Below w7.heap.size w7 wr)) (fun _ j _ => n - (intOf j).toNat)
          case atStart => exact ⟨0, [], Nat.zero_le _, rfl, Lib.hid rfl, Lib.hid (OwnQ.nil _ _), Lib.hid (Below.refl _ _)⟩
          case round =>
            obtain ⟨k2, F, hk2, rfl, hF, hO, hD⟩ := hrel
            obtain ⟨va, vc, rfl⟩ := hO.out.form
            by_cases hlt2 : k2 < n
            · obtain ⟨v0, hv0⟩ : ∃ v0, V[k2]? = some v0 := ⟨V[k2]'(by rw [HN.out]; omega), by simp⟩
              obtain ⟨yk, hyk⟩ : ∃ yk, y[k2]? = some yk := ⟨y[k2]'(by rw [HY2.out]; omega), by simp⟩
              obtain ⟨gy, rfl, hgy, hyc⟩ := HYC.out (by omega)
              have hyk5 : 1 ≤ yk ∧ yk ≤ n := ord_le (List.mem_of_getElem? HY1.out) yk (List.mem_of_getElem? hyk)
              have OR : w7.ownsRow base4 9 1 (.slice a9 n c9) V.length (strs V) := by
                rw [HN.out]
                exact ST7.out
              obtain ⟨g, cap, hav, hcell, hgb, hgl⟩ := row_str OR hv0
              injection hav with hav1 hav3 hav2
              subst hav1 hav2
              clear hav3 OR
              have hcy := hyc k2 yk hyk
              have Hb : Hid (∀ w', Below w7.heap.size w7 w' → w'.cell? ⟨g, k2, none⟩ = some (.string v0) ∧ w'.cell? ⟨g0, k, none⟩ = some (.slice (some ⟨gy, 0, none⟩) n cy) ∧ w'.cell? ⟨gy, k2, none⟩ = some (.int .i64 (yk : Int))) := Lib.hid (fun w' q => ⟨(q.cell (p := ⟨g, k2, none⟩) hgl).trans hcell, (q.cell (p := ⟨g0, k, none⟩) HYR.out.2).trans HYR.out.1, (q.cell (p := ⟨gy, k2, none⟩) hgy).trans hcy⟩)
              have NM := Lib.hid (fun w' => NorI.name_any yk (by omega) w')
              obtain ⟨nt, hnt⟩ : ∃ t, t = nmT yk := ⟨_, rfl⟩
              have HNX := Lib.hid (bnd_next hv0 hyk)
              rw [← hnt] at HNX
              have hnv2 : (⟨#[86]⟩ ++ ⟨#[UInt8.ofNat (48 + yk)]⟩ : ByteArray).size ≤ maxLen := by rw [ByteArray.size_append]; show 1 + 1 ≤ maxLen; unfold maxLen; omega
              have hvl9 : v0.size ≤ maxLen := by have := VS.out v0 (List.mem_of_getElem? hv0); unfold maxLen; omega
              have XI := Lib.hid (fun w' => show KB.inn (· < w7.heap.size) w' ((v0, nt), .slice none 0 0) from by subst hnt; exact ⟨SlIn.none _ _, hnv2, hvl9⟩)
              have HNT : Hid (KB.cells ((v0, nt), Value.slice none 0 0) = [.string v0, .string (⟨#[86]⟩ ++ ⟨#[UInt8.ofNat (48 + yk)]⟩), .slice none 0 0]) := Lib.hid (by subst hnt; rfl)
              generalize (⟨#[86]⟩ ++ ⟨#[UInt8.ofNat (48 + yk)]⟩ : ByteArray) = nv at *
              have hFl : F.length = k2 := by
                have := congrArg List.length hF.out
                rw [List.length_map, bnd_len HN.out HY2.out (by omega)] at this
                exact this
              have A1 := UniR.bd3 (n := F.length) (by omega)
              have A2 := UniR.bd4 (n := F.length) (by omega)
              have HP6 : Hid (∀ u : Value, (F ++ [((v0, nt), u)]).map (·.1) = bndK V y (k2 + 1)) := Lib.hid (fun u => by rw [List.map_append, hF.out, HNX.out]; rfl)
              clear hcell hgl hyc hcy hnt hv0 hyk hFl hnv2 hvl9
              have XD : Hid (Below w7.heap.size w7 wr.drew) := Lib.hid hD.out.drew
              have OD : Hid (OwnQ w7.heap.size wr.drew F (.slice va F.length vc)) := Lib.hid (hO.out.drewN 1)
              obtain ⟨s1, s2, s3⟩ := Hb.out _ XD.out
              clear hO hD
              go_upto_region 15 with fail
              refine wp_region_held_drew (S := (fun w' => w'.cell? ⟨g, k2, none⟩ = some (.string v0) ∧ w'.cell? ⟨g0, k, none⟩ = some (.slice (some ⟨gy, 0, none⟩) n cy) ∧ w'.cell? ⟨gy, k2, none⟩ = some (.int .i64 (yk : Int)))) (by kernel_rfl) (Hb.out _ XD.out) (fun hHeld => ?_)
              generalize hw0 : wr.drew = wd at hHeld XD OD ⊢
              clear hw0 s1 s2 s3
              refine wpAnyH_take (i := 0) (v := ?_) rfl (by kernel_rfl) (by kernel_rfl) (by kernel_rfl) (fun _ _ _ h => h) (Or.inl ⟨by rfl, ?_⟩) (by assumption) ?_
              rotate_left
              · intro w' hSw; (try dsimp only at hSw); (try simp only [List.getElem_toArray, List.getElem_cons_zero]); go_simp; try with_reducible rfl
              (try simp only [List.getElem_toArray, List.getElem_cons_zero, Act.put, List.setIfInBounds_toArray, List.set_cons_zero, List.set_cons_succ])
              refine wpAnyH_take (i := 1) (v := ?_) rfl (by kernel_rfl) (by kernel_rfl) (by kernel_rfl) (fun _ _ _ h => h) (Or.inl ⟨by rfl, ?_⟩) (by assumption) ?_
              rotate_left
              · intro w' hSw; (try dsimp only at hSw); (try simp only [List.getElem_toArray, List.getElem_cons_zero, List.getElem_cons_succ]); go_simp; try with_reducible rfl
              (try simp only [List.getElem_toArray, List.getElem_cons_zero, List.getElem_cons_succ, Act.put, List.setIfInBounds_toArray, List.set_cons_zero, List.set_cons_succ])
              refine wpAnyH_take (i := 2) (v := ?_) rfl (by kernel_rfl) (by kernel_rfl) (by kernel_rfl) (fun _ _ _ h => h) (Or.inl ⟨by rfl, ?_⟩) (by assumption) ?_
              rotate_left
              · intro w' hSw; (try dsimp only at hSw); (try simp only [List.getElem_toArray, List.getElem_cons_zero, List.getElem_cons_succ]); go_simp; try with_reducible rfl
              (try simp only [List.getElem_toArray, List.getElem_cons_zero, List.getElem_cons_succ, Act.put, List.setIfInBounds_toArray, List.set_cons_zero, List.set_cons_succ])
              refine wpAnyH_take (i := 3) (v := ?_) rfl (by kernel_rfl) (by kernel_rfl) (by kernel_rfl) (fun _ _ _ h => h) (Or.inl ⟨by rfl, ?_⟩) (by assumption) ?_
              rotate_left
              · intro w' hSw; (try dsimp only at hSw); (try simp only [List.getElem_toArray, List.getElem_cons_zero, List.getElem_cons_succ]); go_simp; try with_reducible rfl
              (try simp only [List.getElem_toArray, List.getElem_cons_zero, List.getElem_cons_succ, Act.put, List.setIfInBounds_toArray, List.set_cons_zero, List.set_cons_succ])
              refine wpAnyH_take (i := 4) (v := ?_) rfl (by kernel_rfl) (by kernel_rfl) (by kernel_rfl) (fun _ _ _ h => h) (Or.inl ⟨by rfl, ?_⟩) (by assumption) ?_
              rotate_left
              · intro w' hSw; (try dsimp only at hSw); (try simp only [List.getElem_toArray, List.getElem_cons_zero, List.getElem_cons_succ]); go_simp; try with_reducible rfl
              (try simp only [List.getElem_toArray, List.getElem_cons_zero, List.getElem_cons_succ, Act.put, List.setIfInBounds_toArray, List.set_cons_zero, List.set_cons_succ])
              refine wpAnyH_take (i := 5) (v := ?_) rfl (by kernel_rfl) (by kernel_rfl) (by kernel_rfl) (fun _ _ _ h => h) (Or.inl ⟨by rfl, ?_⟩) (by assumption) ?_
              rotate_left
              · intro w' hSw; (try dsimp only at hSw); (try simp only [List.getElem_toArray, List.getElem_cons_zero, List.getElem_cons_succ]); go_simp; try with_reducible rfl
              (try simp only [List.getElem_toArray, List.getElem_cons_zero, List.getElem_cons_succ, Act.put, List.setIfInBounds_toArray, List.set_cons_zero, List.set_cons_succ])
              refine wpAnyH_take (i := 6) (v := ?_) rfl (by kernel_rfl) (by kernel_rfl) (by kernel_rfl) (fun _ _ _ h => h) (Or.inl ⟨by rfl, ?_⟩) (by assumption) ?_
              rotate_left
              · intro w' hSw; (try dsimp only at hSw); (try simp only [List.getElem_toArray, List.getElem_cons_zero, List.getElem_cons_succ]); go_simp; try with_reducible rfl
              (try simp only [List.getElem_toArray, List.getElem_cons_zero, List.getElem_cons_succ, Act.put, List.setIfInBounds_toArray, List.set_cons_zero, List.set_cons_succ])
              refine wpAnyH_take (i := 7) (v := ?_) rfl (by kernel_rfl) (by kernel_rfl) (by kernel_rfl) (fun _ _ _ h => h) (Or.inl ⟨by rfl, ?_⟩) (by assumption) ?_
              rotate_left
              · intro w' hSw; (try dsimp only at hSw); (try simp only [List.getElem_toArray, List.getElem_cons_zero, List.getElem_cons_succ]); go_simp; try with_reducible rfl
              (try simp only [List.getElem_toArray, List.getElem_cons_zero, List.getElem_cons_succ, Act.put, List.setIfInBounds_toArray, List.set_cons_zero, List.set_cons_succ])
              refine wpAnyH_take (i := 8) (v := ?_) rfl (by kernel_rfl) (by kernel_rfl) (by kernel_rfl) (fun _ _ _ h => h) (Or.inl ⟨by rfl, ?_⟩) (by assumption) ?_
              rotate_left
              · intro w' hSw; (try dsimp only at hSw); (try simp only [List.getElem_toArray, List.getElem_cons_zero, List.getElem_cons_succ]); go_simp; try with_reducible rfl
              (try simp only [List.getElem_toArray, List.getElem_cons_zero, List.getElem_cons_succ, Act.put, List.setIfInBounds_toArray, List.set_cons_zero, List.set_cons_succ])
              refine wpAnyH_take (i := 9) (v := ?_) rfl (by kernel_rfl) (by kernel_rfl) (by kernel_rfl) (fun _ _ _ h => h) (Or.inl ⟨by rfl, ?_⟩) (by assumption) ?_
              rotate_left
              · intro w' hSw; (try dsimp only at hSw); (try simp only [List.getElem_toArray, List.getElem_cons_zero, List.getElem_cons_succ]); go_simp; try with_reducible rfl
              (try simp only [List.getElem_toArray, List.getElem_cons_zero, List.getElem_cons_succ, Act.put, List.setIfInBounds_toArray, List.set_cons_zero, List.set_cons_succ])
              refine wpAnyH_take (i := 10) (v := ?_) rfl (by kernel_rfl) (by kernel_rfl) (by kernel_rfl) (fun _ _ _ h => h) (Or.inl ⟨by rfl, ?_⟩) (by assumption) ?_
              rotate_left
              · intro w' hSw; (try dsimp only at hSw); (try simp only [List.getElem_toArray, List.getElem_cons_zero, List.getElem_cons_succ]); go_simp; try with_reducible rfl
              (try simp only [List.getElem_toArray, List.getElem_cons_zero, List.getElem_cons_succ, Act.put, List.setIfInBounds_toArray, List.set_cons_zero, List.set_cons_succ])
              refine wpAnyH_take (i := 11) (v := ?_) rfl (by kernel_rfl) (by kernel_rfl) (by kernel_rfl) (fun _ _ _ h => h) (Or.inl ⟨by rfl, ?_⟩) (by assumption) ?_
              rotate_left
              · intro w' hSw; (try dsimp only at hSw); (try simp only [List.getElem_toArray, List.getElem_cons_zero, List.getElem_cons_succ]); go_simp; try with_reducible rfl
              (try simp only [List.getElem_toArray, List.getElem_cons_zero, List.getElem_cons_succ, Act.put, List.setIfInBounds_toArray, List.set_cons_zero, List.set_cons_succ])
              refine wpAnyH_ready (rs := [12]) (by kernel_rfl) (by simp) ?_
              refine (AllReadyH.cons rfl (fun K' hK => ?_) AllReadyH.nil)
              go_simp
              (try go_split_ands)
              refine (NM.out _).mono ?_
              rintro e w8 ⟨rfl, k8⟩
              have X8 := Lib.hid (next0 XD.out k8)
              have O8 := Lib.hid (ownq_below OD.out k8 (by have := XD.out.size; omega))
              have hs8 : w7.heap.size ≤ w8.heap.size := X8.out.size
              clear k8
              refine hK.out _ _ (Hb.out _ X8.out) (fun hHeld => ?_)
              clear hK K'
              (try simp only [List.getElem_toArray, List.getElem_cons_zero, List.getElem_cons_succ, Act.put, List.setIfInBounds_toArray, List.set_cons_zero, List.set_cons_succ])
              refine wpAnyH_take (i := 13) (v := ?_) rfl (by kernel_rfl) (by kernel_rfl) (by kernel_rfl) (fun _ _ _ h => h) (Or.inl ⟨by rfl, ?_⟩) (by assumption) ?_
              rotate_left
              · intro w' hSw; (try dsimp only at hSw); (try simp only [List.getElem_toArray, List.getElem_cons_zero, List.getElem_cons_succ]); go_simp; try with_reducible rfl
              (try simp only [List.getElem_toArray, List.getElem_cons_zero, List.getElem_cons_succ, Act.put, List.setIfInBounds_toArray, List.set_cons_zero, List.set_cons_succ])
              refine wpAnyH_ready (rs := [14]) (by kernel_rfl) (by simp) ?_
              refine (AllReadyH.cons rfl (fun K' hK => ?_) AllReadyH.nil)
              go_simp
              (try go_split_ands)
              obtain ⟨w9, hw9⟩ : ∃ z, z = w8.alloc (.cells #[.string v0, .string nv, .slice none 0 0] 69) := ⟨_, rfl⟩
              rw [← hw9]
              have J9 : Hid (Below w8.heap.size w8 w9) := Lib.hid (by rw [hw9]; exact below_alloc _ _)
              have A4 : w7.heap.size ≤ w9.heap.size := by have := J9.out.size; omega
              refine hK.out _ _ (Hb.out _ (next0 X8.out J9.out)) (fun hHeld => ?_)
              clear hK K'
              (try simp only [List.getElem_toArray, List.getElem_cons_zero, List.getElem_cons_succ, Act.put, List.setIfInBounds_toArray, List.set_cons_zero, List.set_cons_succ])
              refine wpAnyH_ready (rs := [15]) (by kernel_rfl) (by simp) ?_
              refine (AllReadyH.cons rfl (fun K' hK => ?_) AllReadyH.nil)
              rw [hw9]
              refine step_append_lies _ rfl _ _ 59 rfl w7.heap.size 69 i0 zB 3 56 Tryz.underlying59 hi hz0 hz1 hz2 rfl (by decide) (.slice va F.length vc) F.length (KB.flat F) rfl (O8.out.1.alloc _) ⟨w8.heap.size, 0, none⟩ 1 1 [.string v0, .string nv, .slice none 0 0] rfl rfl (newsK _ _ _ _ _) (one_B _ _ _ _ _) (by decide) A1 A2 (by rw [← hw9]; exact A4) (w8.heap.size + 1) (by simp) ?_
              intro g6 c6 w6 hown hgrow hat hlt6
              clear hw9 J9
              obtain ⟨O6, B6⟩ := OwnQ.add (x := ((v0, nt), .slice none 0 0)) O8.out hs8 (XI.out w8) (by rw [show KB.cells ((v0, nt), Value.slice none 0 0) = [.string v0, .string nv, .slice none 0 0] from HNT.out]; exact hown) hgrow
              have O6 := Lib.hid O6
              have D6 : Hid (Below w7.heap.size w7 w6) := Lib.hid (X8.out.trans B6)
              clear hown hgrow hat B6
              refine hK.out _ _ (Hb.out _ D6.out) (fun hHeld => ?_)
              clear hK K'
              (try simp only [List.getElem_toArray, List.getElem_cons_zero, List.getElem_cons_succ, Act.put, List.setIfInBounds_toArray, List.set_cons_zero, List.set_cons_succ])
              refine wpAnyH_take (i := 16) (v := ?_) rfl (by kernel_rfl) (by kernel_rfl) (by kernel_rfl) (fun _ _ _ h => h) (Or.inl ⟨by rfl, ?_⟩) (by assumption) ?_
              rotate_left
              · intro w' hSw; (try dsimp only at hSw); (try simp only [List.getElem_toArray, List.getElem_cons_zero, List.getElem_cons_succ]); go_simp; try with_reducible rfl
              (try simp only [List.getElem_toArray, List.getElem_cons_zero, List.getElem_cons_succ, Act.put, List.setIfInBounds_toArray, List.set_cons_zero, List.set_cons_succ])
              refine wpAnyH_done (by kernel_rfl) ?_ _
              go_wp2_with fail
              go_roundw
              case rel => first | exact ⟨k2 + 1, _, by omega, by go_num, HP6.out _, O6, D6⟩ | ((repeat (apply Exists.intro)); refine ⟨?_, rfl⟩; exact ⟨k2 + 1, _, by omega, by go_num, HP6.out _, O6, D6⟩)
              case measure => simp [intOf]; omega
            · obtain rfl : k2 = n := by omega
              have SI := Lib.hid (hO.out.sin hD.out.size)
              rw [hF.out, bnd_all HN.out] at SI
              have K8 := Lib.hid (next0 K7.out hD.out)
              have CB2 := Lib.hid (CB1.out y wr _ K8.out SI.out)
              unfold RuX at CB2
              have hs78 := hD.out.size
              have CPy := Lib.hid (CP.out y)
              have LU := Lib.hid (ats_len (appT (V.zip (y.map nmT))) l)
              generalize appT (V.zip (y.map nmT)) h = u at *
              generalize atomsL (appT (V.zip (y.map nmT))) l = ul at *
              have H8 := Lib.hid ((hX.out.has H6.out (show ¬ w.heap.size = P by omega)).step0 hD.out)
              obtain ⟨b1, b2, b3, b4, b5, b6, b7⟩ := UnpP.has3 H8.out
              have LNX := Lib.hid (fun hx => least_next (f := cndO V (h, l)) (k := k) (x := x) HY1.out hx)
              have LFX := Lib.hid (fun (e : k = 0) => least_first (f := cndO V (h, l)) (by rw [← e]; exact HY1.out))
              rw [CPy.out] at LNX LFX
              generalize hxe : (u, arrL ul) = xn at *
              have e1 : u = xn.1 := by rw [← hxe]
              have e2 : Hid (arrL ul = xn.2) := Lib.hid (by rw [← hxe])
              subst e1
              clear hxe hF hO SI CB1 CPy CP
              go_wp2_with fail
              refine CB2.out.mono ?_
              rintro e w9 ⟨q9, d9, v9, rfl, hS9, hL9, hn9, k9⟩
              obtain ⟨p9, c9', rfl⟩ := hL9.form
              have S9 := Lib.hid (hS9.weaken (ok' := fun b => wr.heap.size ≤ b ∧ b < w9.heap.size) (fun b hb => hb.resolve_left id))
              have L9 := Lib.hid (hL9.wide (ok' := fun b => wr.heap.size ≤ b ∧ b < w9.heap.size) (fun b hb => hb.resolve_left id))
              have NU := Lib.hid hn9
              have J9 := Lib.hid k9
              have TD := Lib.hid (NolK.tidy_any xn.1 ul (fun b => wr.heap.size ≤ b ∧ b < w9.heap.size) w9.heap.size (fun b h => h.2) w9 _ _ (Nat.le_refl _) (S9.out.weaken fun b hb => hb.2) L9.out (by rw [LU.out]; have := P8.out.1; exact Nat.le_trans this (by omega)))
              rw [e2.out] at TD
              have hs89 := k9.size
              clear hS9 hL9 hn9 k9 CB2 b1 b2 b3 b4 b5 b6 b7 e2 LU
              go_wp2_with fail
              refine TD.out.mono ?_
              rintro e w10 ⟨v10, rfl, hL10, k10⟩
              obtain ⟨p10, c10, rfl⟩ := hL10.form
              have hs910 := k10.size
              obtain ⟨W11, hW11⟩ : ∃ z, z = w10.alloc (.cells #[.string xn.1.nm, .slice q9 xn.1.args.length d9, .slice p10 xn.2.length c10] 27) := ⟨_, rfl⟩
              obtain ⟨Q, hQ⟩ : ∃ m, m = w10.heap.size := ⟨_, rfl⟩
              have J11 : Hid (Below w10.heap.size w10 W11) := Lib.hid (by rw [hW11]; exact below_alloc _ _)
              have hs11 : W11.heap.size = Q + 1 := by rw [hW11, hQ]; simp
              have HQ : Hid (Has W11 Q #[.string xn.1.nm, .slice q9 xn.1.args.length d9, .slice p10 xn.2.length c10]) := Lib.hid (by rw [hW11, hQ]; exact Has.new _ _ _)
              have S10 : Hid (SlIn (fun b => P < b ∧ b < W11.heap.size) W11 xn.1.args (.slice q9 xn.1.args.length d9)) := Lib.hid ((S9.out.frame fun b o hb => (J11.out.cell (p := ⟨b, o, none⟩) (show b < w10.heap.size by have := hb.2; omega)).trans (k10.cell (p := ⟨b, o, none⟩) hb.2)).weaken fun b hb => ⟨by have := hb.1; omega, by have := hb.2; omega⟩)
              have L10 : Hid (LIn (fun b => P < b ∧ b < W11.heap.size) W11 xn.2 (.slice p10 xn.2.length c10)) := Lib.hid ((hL10.keep fun b o hb => J11.out.cell (p := ⟨b, o, none⟩) (show b < w10.heap.size by rcases hb with hb | hb <;> (have := hb.2; omega))).wide fun b hb => by rcases hb with hb | hb <;> exact ⟨by have := hb.1; omega, by have := hb.2; omega⟩)
              have D11 : Hid (Below w7.heap.size w7 W11) := Lib.hid (next0 (next0 (next0 hD.out J9.out) k10) J11.out)
              have X11 := Lib.hid (hX.out.below D11.out)
              have KEEP : Hid (∀ wS, Below W11.heap.size W11 wS → Has wS P #[.string x.1.nm, .slice q x.1.args.length d, .slice xp x.2.length xc] ∧ SlIn (fun b => P < b ∧ b < wS.heap.size) wS x.1.args (.slice q x.1.args.length d) ∧ LIn (fun b => P < b ∧ b < wS.heap.size) wS x.2 (.slice xp x.2.length xc) ∧ Lt (fun b => b = P) W6 wS) := Lib.hid (fun wS g => by
                have gg := next0 D11.out g
                have hgs := gg.size
                exact ⟨hBx.out.step0 gg, (hSx.out.frame fun b o hb => gg.cell (p := ⟨b, o, none⟩) hb.2).weaken fun b hb => ⟨hb.1, by omega⟩, (hLx.out.keep fun b o hb => gg.cell (p := ⟨b, o, none⟩) hb.2).wide fun b hb => ⟨hb.1, by omega⟩, hX.out.below gg⟩)
              have PUTF : Hid (∀ wS wz, Below W11.heap.size W11 wS → wz = ((wS.setCell ⟨P, 0, none⟩ (.string xn.1.nm)).setCell ⟨P, 1, none⟩ (.slice q9 xn.1.args.length d9)).setCell ⟨P, 2, none⟩ (.slice p10 xn.2.length c10) → Has wz P #[.string xn.1.nm, .slice q9 xn.1.args.length d9, .slice p10 xn.2.length c10] ∧ SlIn (fun b => P < b ∧ b < wz.heap.size) wz xn.1.args (.slice q9 xn.1.args.length d9) ∧ LIn (fun b => P < b ∧ b < wz.heap.size) wz xn.2 (.slice p10 xn.2.length c10) ∧ Lt (fun b => b = P) W6 wz) := Lib.hid (fun wS wz g hz => by
                have hb9 := (KEEP.out wS g).1
                have T9 : Lt (fun b => b = P) W11 wz := by rw [hz]; exact Lt.put (ex := (fun b => b = P)) (p := ⟨P, 2, none⟩) (Lt.put (ex := (fun b => b = P)) (p := ⟨P, 1, none⟩) (Lt.put (ex := (fun b => b = P)) (p := ⟨P, 0, none⟩) (Lt.of g) (Or.inl rfl) _) (Or.inl rfl) _) (Or.inl rfl) _
                have hzs := T9.size
                exact ⟨by rw [hz]; exact UnmH.put3 hb9 _ _ _, (S10.out.frame fun b o hb => T9.cell hb.2 (by have := hb.1; omega)).weaken fun b hb => ⟨hb.1, by omega⟩, (L10.out.keep fun b o hb => T9.cell hb.2 (by have := hb.1; omega)).wide fun b hb => ⟨hb.1, by omega⟩, NolK.lt_chain X11.out T9 (fun i e => Or.inl e)⟩)
              have CM := Lib.hid (fun (sv sv' v v' : Value) (h1 : SlIn (· < W11.heap.size) W11 xn.1.args sv) (h2 : SlIn (· < W11.heap.size) W11 x.1.args sv') (h3 : LIn (· < W11.heap.size) W11 xn.2 v) (h4 : LIn (· < W11.heap.size) W11 x.2 v') => NorG.rcmpr_any xn.1 x.1 xn.2 x.2 W11.heap.size W11 sv sv' v v' (Nat.le_refl _) h1 h2 NU.out hNx.out h3 h4)
              have CM1 := Lib.hid (CM.out _ _ _ _ (S10.out.weaken fun b hb => hb.2) ((KEEP.out W11 (Below.refl _ _)).2.1.weaken fun b hb => hb.2) (L10.out.wide fun b hb => hb.2) ((KEEP.out W11 (Below.refl _ _)).2.2.1.wide fun b hb => hb.2))
              have BX11 := Lib.hid (KEEP.out W11 (Below.refl _ _)).1
              have CE : Hid (cmpR (xn.1, xn.2) (x.1, x.2) = cmpR xn x) := Lib.hid rfl
              rw [CE.out] at CM1
              clear CM CE hL10 k10 TD S9 L9 D11 X11 J9 hSx hLx hBx hX hD
              have H11 := Lib.hid (UnpP.has3 HQ.out)
              obtain ⟨f1, f2, f3, f4, f5, f6, f7⟩ := UnpP.has3 HQ.out
              obtain ⟨g1, g2, g3, g4, g5, g6, g7⟩ := UnpP.has3 BX11.out
              generalize hcc : cmpR xn x = c at *
              clear hcc
              have PUT1 := Lib.hid (fun wS g => PUTF.out wS _ g rfl)
              go_upto_region 17 with fail
              rw [← hW11, ← hQ]
              clear hW11 hQ J11
              by_cases hk0 : k = 0
              · have LE1 := Lib.hid (LFX.out hk0)
                have PU0 := Lib.hid (PUT1.out W11 (Below.refl _ _))
                subst hk0
                clear KEEP PUT1 PUTF CM1
                go_wp2_with fail
                go_roundw
                case rel => exact ⟨0 + 1, xn, q9, d9, _, by omega, by go_num, Lib.hid (fun _ => LE1.out), Lib.hid PU0.out.1, Lib.hid PU0.out.2.1, Lib.hid PU0.out.2.2.1, NU, Lib.hid PU0.out.2.2.2⟩
                case measure => simp [intOf]; omega
              · have hkb : ((k : Int) == 0) = false := by simp; omega
                have hk1 : ¬ (k : Int) = 0 := by omega
                have LNX1 := Lib.hid (LNX.out (hLe.out (by omega)))
                clear LNX LFX hLe
                go_wp2_with fail
                refine CM1.out.mono ?_
                rintro e w12 ⟨rfl, g12⟩
                have KE12 := Lib.hid (KEEP.out w12 g12.1)
                have PU12 := Lib.hid (PUT1.out w12 g12.1)
                obtain ⟨h1, h2, h3, h4, h5a, h6, h7⟩ := UnpP.has3 KE12.out.1
                obtain ⟨t1, t2, t3, t4, t5, t6, t7⟩ := UnpP.has3 (HQ.out.step0 g12.1)
                clear g12 KEEP PUT1 PUTF CM1 f1 f2 f3 f4 f5 f6 f7 g1 g2 g3 g4 g5 g6 g7 H11
                by_cases hc : c < 0
                · have LE1 := Lib.hid (LNX1.out.1 (by omega))
                  clear KE12
                  go_wp2_with fail
                  go_roundw
                  case rel => exact ⟨k + 1, xn, q9, d9, _, by omega, by go_num, Lib.hid (fun _ => LE1.out), Lib.hid PU12.out.1, Lib.hid PU12.out.2.1, Lib.hid PU12.out.2.2.1, NU, Lib.hid PU12.out.2.2.2⟩
                  case measure => simp [intOf]; omega
                · have LE1 := Lib.hid (LNX1.out.2 (by omega))
                  clear PU12
                  go_wp2_with fail
                  go_roundw
                  case rel => exact ⟨k + 1, x, q, d, _, by omega, by go_num, Lib.hid (fun _ => LE1.out), Lib.hid KE12.out.1, Lib.hid KE12.out.2.1, Lib.hid KE12.out.2.2.1, hNx, Lib.hid KE12.out.2.2.2⟩
                  case measure => simp [intOf]; omega
        · obtain rfl : k = a := by omega
          have NF := Lib.hid (NO.out x C11.out (by have h := hLe.out (by omega); rw [List.take_of_length_le (by have h1 := hal.out; have h2 := HLA.out; omega)] at h; exact h))
          have E7 := Lib.hid (hX.out.has E6.out (show ¬ w.heap.size + 1 = P by omega))
          have H7 := Lib.hid hBx.out
          obtain ⟨W9, hW9⟩ : ∃ z, z = ((wr.setCell ⟨w.heap.size + 1, 0, none⟩ (.string x.1.nm)).setCell ⟨w.heap.size + 1, 1, none⟩ (.slice q x.1.args.length d)).setCell ⟨w.heap.size + 1, 2, none⟩ (.slice xp x.2.length xc) := ⟨_, rfl⟩
          have R6 := UnmH.put3 E7.out (.string x.1.nm) (.slice q x.1.args.length d) (.slice xp x.2.length xc)
          obtain ⟨r1, r2, r3⟩ := UniA.three R6
          have P9 : Hid (LigY.Lt (· = w.heap.size + 1) wr W9) := Lib.hid (by rw [hW9]; exact Lt.put (ex := (· = w.heap.size + 1)) (p := ⟨w.heap.size + 1, 2, none⟩) (Lt.put (ex := (· = w.heap.size + 1)) (p := ⟨w.heap.size + 1, 1, none⟩) (Lt.put (ex := (· = w.heap.size + 1)) (p := ⟨w.heap.size + 1, 0, none⟩) (Lt.of (Below.refl _ _)) (Or.inl rfl) _) (Or.inl rfl) _) (Or.inl rfl) _)
          have hz9 := P9.out.size
          have X9 : Hid (NfR (h, l) w (.returned (.tuple #[.agg #[.string x.1.nm, .slice q x.1.args.length d, .slice xp x.2.length xc], .int .i64 0])) W9) := Lib.hid ⟨x, q, d, _, by rw [C11.out], NF.out, (hSx.out.frame fun b o hb => P9.out.cell hb.2 (by have := hb.1; omega)).weaken fun b hb => ⟨by omega, by omega⟩, (hLx.out.keep fun b o hb => P9.out.cell hb.2 (by have := hb.1; omega)).wide fun b hb => ⟨by omega, by omega⟩, hNx.out, K7.out.trans (P9.out.toBelow (by omega) fun i hi => by omega)⟩
          have HW9 := Lib.hid hW9
          obtain ⟨f1, f2, f3, f4, f5, f6, f7⟩ := UnpP.has3 E7.out
          obtain ⟨g1, g2, g3, g4, g5, g6, g7⟩ := UnpP.has3 H7.out
          clear R6 P9 hz9 hW9 NF hSx hLx hBx hLe hNx
          generalize x.1.nm = xn at *
          generalize x.1.args.length = xa at *
          generalize x.2.length = xl at *
          go_wp2_with fail
          refine bodyPost_ret (v := .tuple #[.agg #[.string xn, .slice q xa d, .slice xp xl xc], .int .i64 0]) (by simp [results, Tryz.results15, go_sem, r1, r2, r3]) rfl ?_
          rw [← HW9.out]
          exact X9.out
end NolN
end Go.Proofs.YtdkpflojdnkbnaaGreatDoor
