/- Texts laid together: NosJ; NosK. Their own heads stand before each. -/
import Derived.Test.YtdkpflojdnkbnaaGreatDoorHAL
import Derived.Test.YtdkpflojdnkbnaaGreatDoorHBE
import Derived.Test.YtdkpflojdnkbnaaGreatDoorHAN
/- eachOrder of the code, as in NorJ, for names of at most a hundred bytes. Conditions: the function's contract at the row, and what it keeps is steady. -/
namespace Go.Proofs.YtdkpflojdnkbnaaGreatDoor
open Go Go.RowKit
namespace NosJ
open Kit LexM TermM TermI TermN TermU UniK UniM UnpP NorM NorP NorJ
set_option maxRecDepth 100000 in
set_option maxHeartbeats 6400000 in
theorem order_any (vs : List ByteArray) (n g : Nat) (c0 c1 c2 : Value) (hn : n ≤ 1000) (hvs : vs.length = n) (P : List (List ByteArray) → World → Prop)
    (HP : ∀ pre w w', P pre w → Ch g w w' → P pre w')
    (HV : ∀ pre ns w, ns.length = n → (∀ x ∈ ns, x.size ≤ 100) → P pre w → Rw w g vs ns → Calls Tryz.prog 35 #[.slice (some ⟨g, 0, none⟩) n n, c0, c1, c2] w fun e w' => e = .returned (.tuple #[]) ∧ P (pre ++ [ns]) w' ∧ Rw w' g vs ns) (d : Nat) :
    ∀ (k : Nat) (ns : List ByteArray) (pre : List (List ByteArray)) (w : World), k + d = n → ns.length = n → (∀ x ∈ ns, x.size ≤ 100) → P pre w → Rw w g vs ns →
      Calls Tryz.prog 70 #[.slice (some ⟨g, 0, none⟩) n n, .int .i64 k, .func (.func 35) #[] #[c0, c1, c2]] w fun e w' => e = .returned (.tuple #[]) ∧ P (pre ++ vis d ns k) w' ∧ Rw w' g vs ns := by
  induction d with
  | zero =>
    intro k ns pre w hk hl hsz hp hr
    obtain rfl : k = n := by omega
    have V := Lib.hid (HV pre ns w hl hsz hp hr)
    clear HV HP hp hr hsz
    go_enter Tryz.func70, Tryz.ntmps70
    go_wp2_with fail
    refine V.out.mono ?_
    rintro e w2 ⟨rfl, h1, h2⟩
    have H1 := Lib.hid h1
    have H2 := Lib.hid h2
    clear h1 h2
    go_wp2_with fail
    exact bodyPost_ret (v := .tuple #[]) (by simp [results, Tryz.results70, go_sem]) rfl ⟨rfl, H1.out, H2.out⟩
  | succ d ih =>
    intro k ns pre w hk hl hsz hp hr
    have HSZ := Lib.hid hsz
    have IH := Lib.hid (fun (ns' : List ByteArray) (pre' : List (List ByteArray)) (w' : World) (hl' : ns'.length = n) (hs' : ∀ x ∈ ns', x.size ≤ 100) (hp' : P pre' w') (hr' : Rw w' g vs ns') => show Calls Tryz.prog 70 #[.slice (some ⟨g, 0, none⟩) n n, .int .i64 ((k : Int) + 1), .func (.func 35) #[] #[c0, c1, c2]] w' (fun e w'' => e = .returned (.tuple #[]) ∧ P (pre' ++ vis d ns' (k + 1)) w'' ∧ Rw w'' g vs ns') from ih (k + 1) ns' pre' w' (by omega) hl' hs' hp' hr')
    have hkn : k < n := by omega
    have STEP := Lib.hid (fun j => show List.flatMap (fun j => vis d (swp ns k (k + j)) (k + 1)) (List.range (j + 1)) = List.flatMap (fun j => vis d (swp ns k (k + j)) (k + 1)) (List.range j) ++ vis d (swp ns k (k + j)) (k + 1) by rw [List.range_succ, List.flatMap_append]; simp)
    have L0 : Hid (P (pre ++ List.flatMap (fun j => vis d (swp ns k (k + j)) (k + 1)) (List.range 0)) w) := Lib.hid (by simpa using hp)
    have HR := Lib.hid hr
    have c0' : ((k : Int) == (n : Int)) = false := by rw [beq_eq_false_iff_ne]; omega
    have HL := Lib.hid hl
    clear HV ih hp hr hsz
    go_enter Tryz.func70, Tryz.ntmps70
    go_wp2_with fail
    go_loopw [6] (fun i wr => ∃ q : Nat, k ≤ q ∧ q ≤ n ∧ i = .int .i64 q ∧ Hid (P (pre ++ List.flatMap (fun j => vis d (swp ns k (k + j)) (k + 1)) (List.range (q - k))) wr) ∧ Hid (Rw wr g vs ns)) (fun i _ => n - (intOf i).toNat)
    case atStart => exact ⟨k, Nat.le_refl _, by omega, rfl, by rw [Nat.sub_self]; exact L0, HR⟩
    case round =>
      clear L0 HR
      obtain ⟨q, hq1, hq2, rfl, hP, hR⟩ := hrel
      by_cases hlt : q < n
      · have hkl : k < ns.length := by omega
        have hql : q < ns.length := by omega
        obtain ⟨bk, bq, u1, u2, x1, x2, y1, y2, x3, x4, y3, y4, hg, z1, z2, z3, z4, hsw, hch⟩ := hR.out.facts (by omega) hkl hql
        have SW := Lib.hid hsw
        have CH := Lib.hid hch
        have HSL : Hid ((swp ns k q).length = n) := Lib.hid (by rw [swp_len]; exact hl)
        have HSS : Hid (∀ x ∈ swp ns k q, x.size ≤ 100) := Lib.hid (fun x hx => HSZ.out x ((swp_perm ns hkl hql).mem_iff.1 hx))
        have HSB : Hid (swp (swp ns k q) k q = ns) := Lib.hid (swp_swp ns hkl hql)
        have ST := Lib.hid (STEP.out (q - k))
        rw [show k + (q - k) = q by omega] at ST
        rw [show q - k + 1 = q + 1 - k by omega] at ST
        clear hsw hch
        go_upto_region 5 with fail
        go_region_law (fail)
        all_goals
          have P5 := Lib.hid (HP _ _ _ hP.out CH.out)
          clear x1 x2 x3 x4 y1 y2 y3 y4 z1 z2 z3 z4 hg
          go_wp2_with fail
          refine (IH.out (swp ns k q) _ _ HSL.out HSS.out P5.out SW.out).mono ?_
          rintro e w6 ⟨rfl, h1, h2⟩
          have HSLo := HSL.out
          obtain ⟨bk', bq', u1', u2', x1, x2, y1, y2, x3, x4, y3, y4, hg, z1, z2, z3, z4, hsw, hch⟩ := Rw.facts h2 (by omega) (k := k) (q := q) (by omega) (by omega)
          rw [HSB.out] at hsw
          have SW6 := Lib.hid hsw
          have P6 := Lib.hid (HP _ _ _ h1 hch)
          rw [List.append_assoc, ← ST.out] at P6
          clear h1 h2 hsw hch SW CH P5
          go_upto_region 7 with fail
          go_region_law (fail)
          all_goals
            go_wp2_with fail
            go_roundw
            case rel => exact ⟨q + 1, by omega, by omega, by go_num, P6, SW6⟩
            case measure => simp [intOf]; omega
      · obtain rfl : q = n := by omega
        have HE : Hid (pre ++ List.flatMap (fun j => vis d (swp ns k (k + j)) (k + 1)) (List.range (q - k)) = pre ++ vis (d + 1) ns k) := Lib.hid (by rw [show q - k = d + 1 by omega]; rfl)
        rw [HE.out] at hP
        go_wp2_with fail
        exact bodyPost_end (v := .tuple #[]) (by simp [results, Tryz.results70, go_sem]) rfl ⟨rfl, hP.out, hR.out⟩
end NosJ
end Go.Proofs.YtdkpflojdnkbnaaGreatDoor
/- eachRenaming of the code, as in NorK, for names of at most a hundred bytes; the names of normal forms. Conditions: at most a hundred variables, what order_any wants. -/
namespace Go.Proofs.YtdkpflojdnkbnaaGreatDoor
open Go Go.RowKit
namespace NosK
open Kit LexM TermM TermI TermN TermU UniK UniM UnpP NorM NorP NorJ NorK
theorem nm_size {k : Nat} (hk : k < 100) : (nmV k).size ≤ 100 := by
  have := UnrE.digs_len (k + 1) (by omega)
  have e : (nmV k).size = 1 + (Lib.decDigits (k + 1)).length := by
    unfold nmV
    rw [ByteArray.size_append]
    show 1 + Array.size _ = _
    simp
  omega
theorem names_size {n : Nat} (hn : n < 100) : ∀ x ∈ namesV n, x.size ≤ 100 := fun x hx => by
  obtain ⟨k, hk, rfl⟩ := List.mem_map.1 hx
  exact nm_size (by have := List.mem_range.1 hk; omega)
theorem nm_eq {k : Nat} (hk : k < 9) : nmV k = NorQ.nmV k := by
  have : ∀ k, k < 9 → (nmV k).data.toList = (NorQ.nmV k).data.toList := by decide +kernel
  exact bytes_inj (this k hk)
/-- The renamings as lists of terms. -/
def tms (ns : List ByteArray) : List Tm := ns.map fun b => .mk b []
theorem tms_names {n : Nat} (hn : n ≤ 9) : tms (namesV n) = NorQ.vTs n := by
  unfold tms namesV NorQ.vTs
  rw [List.map_map]
  exact List.map_congr_left fun k hk => by
    have := List.mem_range.1 hk
    show Tm.mk (nmV k) [] = _
    rw [nm_eq (by omega)]
theorem vis_tms {n : Nat} (hn : n ≤ 9) (u : List Tm) : u ∈ (vis n (namesV n) 0).map tms ↔ u.Perm (NorQ.vTs n) := by
  have hl : (namesV n).length = n := by simp [namesV]
  rw [← tms_names hn, List.mem_map]
  constructor
  · rintro ⟨ns, h, rfl⟩
    exact (vis_sub n (namesV n) 0 (by omega) ns h).1.map _
  · intro h
    have h1 : ∀ t ∈ u, t = .mk t.nm [] := fun t ht => by
      obtain ⟨b, _, rfl⟩ := List.mem_map.1 (h.mem_iff.1 ht)
      rfl
    refine ⟨u.map Tm.nm, vis_all n (namesV n) 0 (by omega) _ ?_ (by simp), ?_⟩
    · have := h.map Tm.nm
      unfold tms at this
      rw [List.map_map] at this
      exact this.trans (by rw [show (Tm.nm ∘ fun b => Tm.mk b []) = id from rfl, List.map_id])
    · unfold tms
      rw [List.map_map]
      exact (List.map_congr_left fun t ht => (h1 t ht).symm).trans (List.map_id _)
set_option maxRecDepth 100000 in
set_option maxHeartbeats 6400000 in
theorem renaming_any (vs : List ByteArray) (n : Nat) (w : World) (p : Option Addr) (c : Nat) (c0 c1 c2 : Value) (hn : n < 100) (hvs : vs.length = n)
    (hrow : ∀ i v, vs[i]? = some v → ∃ b o, p = some ⟨b, o, none⟩ ∧ b < w.heap.size ∧ w.cell? ⟨b, o + i, none⟩ = some (.string v)) (P : List (List ByteArray) → World → Prop)
    (HP : ∀ pre w1 w', P pre w1 → Ch w.heap.size w1 w' → P pre w')
    (HV : ∀ pre ns w', ns.length = n → (∀ x ∈ ns, x.size ≤ 100) → P pre w' → Rw w' w.heap.size vs ns → Calls Tryz.prog 35 #[.slice (some ⟨w.heap.size, 0, none⟩) n n, c0, c1, c2] w' fun e w'' => e = .returned (.tuple #[]) ∧ P (pre ++ [ns]) w'' ∧ Rw w'' w.heap.size vs ns)
    (h0 : ∀ w', Below w.heap.size w w' → P [] w') :
    Calls Tryz.prog 34 #[.slice p n c, .func (.func 35) #[] #[c0, c1, c2]] w fun e w' => e = .returned (.tuple #[]) ∧ P (vis n (namesV n) 0) w' ∧ Rw w' w.heap.size vs (namesV n) := by
  obtain ⟨wm, M, O, G⟩ := make_row w n (by omega)
  have hnl : (namesV n).length = n := by simp [namesV]
  have OR := Lib.hid (fun w' (hw : Below w.heap.size w w') (hr : Rw w' w.heap.size vs (namesV n)) => NosJ.order_any vs n w.heap.size c0 c1 c2 (by omega) hvs P HP HV n 0 (namesV n) [] w' (by omega) hnl (names_size hn) (h0 w' hw) hr)
  have B0 : Hid (Below w.heap.size w wm) := Lib.hid ((Below.refl w.heap.size w).grown G (Nat.le_refl _) (fun k h => by cases h))
  have O0 : Hid (Rw wm w.heap.size (pad vs n 0) (pad (namesV n) n 0)) := Lib.hid (by simpa [pad] using O)
  have HROW := Lib.hid hrow
  have HNL := Lib.hid hnl
  have HVS := Lib.hid hvs
  have NG := Lib.hid (fun k (hk : k < n) => show (namesV n)[k]? = some (nmV k) by simp [namesV, hk])
  clear HP HV h0 hrow hnl hvs O G
  obtain ⟨g, hg⟩ : ∃ g, g = w.heap.size := ⟨_, rfl⟩
  go_enter Tryz.func34, Tryz.ntmps34
  go_wp2_with fail
  go_loopw [12] (fun i wr => ∃ k : Nat, k ≤ n ∧ i = .int .i64 k ∧ Hid (Rw wr w.heap.size (pad vs n k) (pad (namesV n) n k)) ∧ Hid (Below w.heap.size w wr)) (fun i _ => n - (intOf i).toNat)
  case atStart => exact ⟨0, Nat.zero_le _, rfl, O0, B0⟩
  case round =>
    clear O0 B0
    obtain ⟨k, hk, rfl, hO, hD⟩ := hrel
    have hvs := HVS.out
    have hnl := HNL.out
    by_cases hlt : k < n
    · obtain ⟨v, hv⟩ : ∃ v, vs[k]? = some v := ⟨vs[k], by simp [hvs, hlt]⟩
      obtain ⟨b, o, rfl, hb, hc⟩ := HROW.out k v hv
      have hc2 : wr.cell? ⟨b, o + k, none⟩ = some (.string v) := (hD.out.cell (p := ⟨b, o + k, none⟩) hb).trans hc
      have hb2 : b < wr.heap.size := Nat.lt_of_lt_of_le hb hD.out.size
      have hp1 := pad_len hvs hk
      have hp2 := pad_len hnl hk
      obtain ⟨u1, u2, u3, y1, y2, y3, y4, y5, y6, y7⟩ := Rw.fact3 hO.out (by omega) (k := k) (by omega)
      have R6 := Rw.put3 hO.out (by omega) (i := k) (by omega) v (nmV k)
      rw [pad_set hvs hv, pad_set hnl (NG.out k hlt)] at R6
      have R7 := Lib.hid R6
      have D7 := Lib.hid (((hD.out.setCell (p := ⟨w.heap.size, k * 3, none⟩) (Nat.le_refl _) (.string v)).setCell (p := ⟨w.heap.size, k * 3 + 1, none⟩) (Nat.le_refl _) (.string (nmV k))).setCell (p := ⟨w.heap.size, k * 3 + 2, none⟩) (Nat.le_refl _) (.slice none 0 0))
      have IT := Lib.hid (fun w' => show Calls Tryz.prog 69 #[.int .i64 ((k : Int) + 1)] w' (fun e w'' => e = .returned (.string ⟨(Lib.decDigits (k + 1)).toArray⟩) ∧ w'' = w') from Tryz.strconv_Itoa_small (k + 1) (by omega) w')
      have hds : (⟨(Lib.decDigits (k + 1)).toArray⟩ : ByteArray).size ≤ 21 := by
        have := UnrE.digs_len (k + 1) (by omega)
        show Array.size _ ≤ 21
        simpa using this
      have AD := Lib.hid (fun w' => run_string_add_sum (P := Tryz.prog) w' ⟨#[86]⟩ ⟨(Lib.decDigits (k + 1)).toArray⟩ (by show 1 + _ ≤ _; omega))
      have hS : ⟨#[86]⟩ ++ ⟨(Lib.decDigits (k + 1)).toArray⟩ = nmV k := rfl
      rw [hS] at AD
      have ad := AD.out
      clear R6 hv hc hds hS hp1 hp2
      generalize (⟨(Lib.decDigits (k + 1)).toArray⟩ : ByteArray) = D at *
      generalize nmV k = S at *
      go_wp2_with (go_at_call 69; refine (IT.out _).mono ?_; rintro e w5 ⟨rfl, rfl⟩)
      go_roundw
      case rel => exact ⟨k + 1, by omega, by go_num, R7, D7⟩
      case measure => simp [intOf]; omega
    · obtain rfl : k = n := by omega
      have hO2 := hO.out
      rw [pad_end hvs, pad_end hnl] at hO2
      have K := Lib.hid (OR.out wr hD.out hO2)
      go_wp2_with fail
      refine K.out.mono ?_
      rintro e w6 ⟨rfl, h1, h2⟩
      have H1 := Lib.hid h1
      have H2 := Lib.hid h2
      clear h1 h2
      go_wp2_with fail
      exact bodyPost_end (v := .tuple #[]) (by simp [results, Tryz.results34, go_sem]) rfl ⟨rfl, by simpa using H1.out, H2.out⟩
end NosK
end Go.Proofs.YtdkpflojdnkbnaaGreatDoor
