/- eachOrder of the code, as in NorJ, for names of at most a hundred bytes. Conditions: the function's contract at the row, and what it keeps is steady. -/
import Derived.Test.YtikkaiiinkeobaaGreatDoorGAL
namespace Go.Proofs.YtikkaiiinkeobaaGreatDoor
open Go Go.RowKit
namespace NosJ
open Kit LexM TermM TermI TermN TermU UniK UniM UnpP NorM NorP NorJ
set_option maxRecDepth 100000 in
set_option maxHeartbeats 6400000 in
theorem order_any (vs : List ByteArray) (n g : Nat) (c0 c1 c2 : Value) (hn : n ≤ 1000) (hvs : vs.length = n) (P : List (List ByteArray) → World → Prop)
    (HP : ∀ pre w w', P pre w → Ch g w w' → P pre w')
    (HV : ∀ pre ns w, ns.length = n → (∀ x ∈ ns, x.size ≤ 100) → P pre w → Rw w g vs ns → Calls Tryz.prog 35 #[.slice (some ⟨g, 0, none⟩) n n, c0, c1, c2] w fun e w' => e = .returned (.tuple #[]) ∧ P (pre ++ [ns]) w' ∧ Rw w' g vs ns) (d : Nat) :
    ∀ (k : Nat) (ns : List ByteArray) (pre : List (List ByteArray)) (w : World), k + d = n → ns.length = n → (∀ x ∈ ns, x.size ≤ 100) → P pre w → Rw w g vs ns →
      Calls Tryz.prog 70 #[.slice (some ⟨g, 0, none⟩) n n, .int .i64 k, .func (.func 35) #[] #[c0, c1, c2]] w fun e w' => e = .returned (.tuple #[]) ∧ P (pre ++ vis d ns k) w' ∧ Rw w' g vs ns := by
  induction d with
  | zero =>
    intro k ns pre w hk hl hsz hp hr
    obtain rfl : k = n := by omega
    have V := Lib.hid (HV pre ns w hl hsz hp hr)
    clear HV HP hp hr hsz
    go_enter Tryz.func70, Tryz.ntmps70
    go_wp2_with fail
    refine V.out.mono ?_
    rintro e w2 ⟨rfl, h1, h2⟩
    have H1 := Lib.hid h1
    have H2 := Lib.hid h2
    clear h1 h2
    go_wp2_with fail
    exact bodyPost_ret (v := .tuple #[]) (by simp [results, Tryz.results70, go_sem]) rfl ⟨rfl, H1.out, H2.out⟩
  | succ d ih =>
    intro k ns pre w hk hl hsz hp hr
    have HSZ := Lib.hid hsz
    have IH := Lib.hid (fun (ns' : List ByteArray) (pre' : List (List ByteArray)) (w' : World) (hl' : ns'.length = n) (hs' : ∀ x ∈ ns', x.size ≤ 100) (hp' : P pre' w') (hr' : Rw w' g vs ns') => show Calls Tryz.prog 70 #[.slice (some ⟨g, 0, none⟩) n n, .int .i64 ((k : Int) + 1), .func (.func 35) #[] #[c0, c1, c2]] w' (fun e w'' => e = .returned (.tuple #[]) ∧ P (pre' ++ vis d ns' (k + 1)) w'' ∧ Rw w'' g vs ns') from ih (k + 1) ns' pre' w' (by omega) hl' hs' hp' hr')
    have hkn : k < n := by omega
    have STEP := Lib.hid (fun j => show List.flatMap (fun j => vis d (swp ns k (k + j)) (k + 1)) (List.range (j + 1)) = List.flatMap (fun j => vis d (swp ns k (k + j)) (k + 1)) (List.range j) ++ vis d (swp ns k (k + j)) (k + 1) by rw [List.range_succ, List.flatMap_append]; simp)
    have L0 : Hid (P (pre ++ List.flatMap (fun j => vis d (swp ns k (k + j)) (k + 1)) (List.range 0)) w) := Lib.hid (by simpa using hp)
    have HR := Lib.hid hr
    have c0' : ((k : Int) == (n : Int)) = false := by rw [beq_eq_false_iff_ne]; omega
    have HL := Lib.hid hl
    clear HV ih hp hr hsz
    go_enter Tryz.func70, Tryz.ntmps70
    go_wp2_with fail
    go_loopw [6] (fun i wr => ∃ q : Nat, k ≤ q ∧ q ≤ n ∧ i = .int .i64 q ∧ Hid (P (pre ++ List.flatMap (fun j => vis d (swp ns k (k + j)) (k + 1)) (List.range (q - k))) wr) ∧ Hid (Rw wr g vs ns)) (fun i _ => n - (intOf i).toNat)
    case atStart => exact ⟨k, Nat.le_refl _, by omega, rfl, by rw [Nat.sub_self]; exact L0, HR⟩
    case round =>
      clear L0 HR
      obtain ⟨q, hq1, hq2, rfl, hP, hR⟩ := hrel
      by_cases hlt : q < n
      · have hkl : k < ns.length := by omega
        have hql : q < ns.length := by omega
        obtain ⟨bk, bq, u1, u2, x1, x2, y1, y2, x3, x4, y3, y4, hg, z1, z2, z3, z4, hsw, hch⟩ := hR.out.facts (by omega) hkl hql
        have SW := Lib.hid hsw
        have CH := Lib.hid hch
        have HSL : Hid ((swp ns k q).length = n) := Lib.hid (by rw [swp_len]; exact hl)
        have HSS : Hid (∀ x ∈ swp ns k q, x.size ≤ 100) := Lib.hid (fun x hx => HSZ.out x ((swp_perm ns hkl hql).mem_iff.1 hx))
        have HSB : Hid (swp (swp ns k q) k q = ns) := Lib.hid (swp_swp ns hkl hql)
        have ST := Lib.hid (STEP.out (q - k))
        rw [show k + (q - k) = q by omega] at ST
        rw [show q - k + 1 = q + 1 - k by omega] at ST
        clear hsw hch
        go_upto_region 5 with fail
        go_region_law (fail)
        all_goals
          have P5 := Lib.hid (HP _ _ _ hP.out CH.out)
          clear x1 x2 x3 x4 y1 y2 y3 y4 z1 z2 z3 z4 hg
          go_wp2_with fail
          refine (IH.out (swp ns k q) _ _ HSL.out HSS.out P5.out SW.out).mono ?_
          rintro e w6 ⟨rfl, h1, h2⟩
          have HSLo := HSL.out
          obtain ⟨bk', bq', u1', u2', x1, x2, y1, y2, x3, x4, y3, y4, hg, z1, z2, z3, z4, hsw, hch⟩ := Rw.facts h2 (by omega) (k := k) (q := q) (by omega) (by omega)
          rw [HSB.out] at hsw
          have SW6 := Lib.hid hsw
          have P6 := Lib.hid (HP _ _ _ h1 hch)
          rw [List.append_assoc, ← ST.out] at P6
          clear h1 h2 hsw hch SW CH P5
          go_upto_region 7 with fail
          go_region_law (fail)
          all_goals
            go_wp2_with fail
            go_roundw
            case rel => exact ⟨q + 1, by omega, by omega, by go_num, P6, SW6⟩
            case measure => simp [intOf]; omega
      · obtain rfl : q = n := by omega
        have HE : Hid (pre ++ List.flatMap (fun j => vis d (swp ns k (k + j)) (k + 1)) (List.range (q - k)) = pre ++ vis (d + 1) ns k) := Lib.hid (by rw [show q - k = d + 1 by omega]; rfl)
        rw [HE.out] at hP
        go_wp2_with fail
        exact bodyPost_end (v := .tuple #[]) (by simp [results, Tryz.results70, go_sem]) rfl ⟨rfl, hP.out, hR.out⟩
end NosJ
end Go.Proofs.YtikkaiiinkeobaaGreatDoor
