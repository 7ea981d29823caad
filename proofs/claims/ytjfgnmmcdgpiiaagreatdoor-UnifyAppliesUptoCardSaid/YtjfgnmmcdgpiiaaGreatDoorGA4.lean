/- Texts laid together: UniT; UniV; UniW; SmrA; UnqE; UnqF; UnqG; UnmI; UnmJ; UnmK. Their own heads stand before each. -/
import Derived.Test.YtjfgnmmcdgpiiaaGreatDoorGA3
import Derived.Test.YtjfgnmmcdgpiiaaGreatDoorGA2
import Derived.Test.YtjfgnmmcdgpiiaaGreatDoorTermS
import Derived.Test.YtjfgnmmcdgpiiaaGreatDoorTermEq
import Derived.Test.YtjfgnmmcdgpiiaaGreatDoorUniP
import Derived.Deep.RegionWith
import Derived.BigQuiet
import Derived.Deep.RegionHeld3
import Derived.Deep.DeepCutAuto
import Derived.Test.YtjfgnmmcdgpiiaaGreatDoorGA1
import Derived.Test.YtjfgnmmcdgpiiaaGreatDoorLigM
import Derived.Test.YtjfgnmmcdgpiiaaGreatDoorUniK
import Derived.Test.YtjfgnmmcdgpiiaaGreatDoorRows
import Derived.Test.YtjfgnmmcdgpiiaaGreatDoorUniO
/- The reference's Match, which answers as the code's does. Condition: bindings and pattern together at most a million. -/
namespace Go.Proofs.YtjfgnmmcdgpiiaaGreatDoor
open Go Go.RowKit
namespace UniT
open LexM TermM TermI Kit TermN TermU TermH UniK UniM UniA UniB UniC UniD UniE UniG UniJ UniO UniL UniP UniR UniS
theorem extl_keeps (lim : Bool) : ∀ (l r : List Tm) (s s' : List Bd), Srt s → extL lim l r s = some s' → Keeps lim (sizeL l) s s'
  | [], r, s, s', hS, h => by
    unfold extL at h
    cases h
    exact ⟨hS, Nat.le_refl _, by omega, fun _ h => h⟩
  | a :: l, [], s, s', hS, h => by unfold extL at h; cases h
  | a :: l, t :: r, s, s', hS, h => by
    unfold extL at h
    split at h
    · rename_i s1 h1
      obtain ⟨a1, a2, a3, a4⟩ := ext_keeps lim a t s s1 hS h1
      obtain ⟨b1, b2, b3, b4⟩ := extl_keeps lim l r s1 s' a1 h
      exact ⟨b1, by omega, by simp only [sizeL]; omega, fun e h => b4 e (a4 e h)⟩
    · cases h
/-- With the limit: the same, or none where it is passed. -/
def cut64 (o : Option (List Bd)) : Option (List Bd) := match o with
  | some s => if s.length ≤ 64 then some s else none
  | none => none
theorem bind_none {s : List Bd} {v : ByteArray} {t : Tm} (h : bindP false s v t = none) : bindP true s v t = none := by
  unfold bindP at h ⊢
  split at h
  · split at h
    · cases h
    · simp_all
  · simp at h
theorem ext_lim (p : Tm) : ∀ (t : Tm) (s : List Bd), Srt s → s.length ≤ 64 → extP true p t s = cut64 (extP false p t s) := by
  induction p using Tm.ind with
  | h n l ih =>
    intro t s hS hs
    unfold extP
    split
    · cases hb : bindP false s n t with
      | none => rw [bind_none hb]; rfl
      | some s' =>
        rw [bind_lim hb]
        unfold cut64
        by_cases h : s'.length ≤ 64
        · rw [if_neg (by omega)]; simp [h]
        · rw [if_pos (by omega)]; simp [h]
    · split
      · have key : ∀ (l : List Tm), (∀ x ∈ l, ∀ (t : Tm) (s : List Bd), Srt s → s.length ≤ 64 → extP true x t s = cut64 (extP false x t s)) → ∀ (r : List Tm) (s : List Bd), Srt s → s.length ≤ 64 → extL true l r s = cut64 (extL false l r s) := by
          intro l
          induction l with
          | nil =>
            intro _ r s _ hs
            simp [extL, cut64, hs]
          | cons a l ihl =>
            intro hx r s hS hs
            cases r with
            | nil => simp [extL, cut64]
            | cons t r =>
              unfold extL
              rw [hx a (by simp) t s hS hs]
              cases he : extP false a t s with
              | none => simp [cut64]
              | some s1 =>
                have hS1 := (ext_keeps false a t s s1 hS he).1
                by_cases h1 : s1.length ≤ 64
                · simp only [cut64, h1, if_true]
                  exact ihl (fun x hx' => hx x (by simp [hx'])) r s1 hS1 h1
                · simp only [cut64, h1, if_false]
                  cases hl : extL false l r s1 with
                  | none => rfl
                  | some s2 =>
                    have := (extl_keeps false l r s1 s2 hS1 hl).2.1
                    simp only
                    rw [if_neg (by omega)]
        exact key l ih t.args s hS hs
      · rfl
theorem valid_step (g : Bool) : ∀ (d : Nat) (t : Tm), validT g d t = true → validT g (d + 1) t = true
  | 0, t, h => by cases t; simp [validT] at h
  | d + 1, .mk n l, h => by
    unfold validT at h ⊢
    split at h
    · rename_i he
      rw [if_pos he]
      exact h
    · rename_i he
      rw [if_neg he]
      rw [Bool.and_eq_true, List.all_eq_true] at h ⊢
      exact ⟨h.1, fun x hx => valid_step g d x (h.2 x hx)⟩
theorem valid_up (g : Bool) {d e : Nat} (h : d ≤ e) {t : Tm} (hv : validT g d t = true) : validT g e t = true := by
  induction h with
  | refl => exact hv
  | step _ ih => exact valid_step g _ t ih
theorem srt_asc : ∀ s : List Bd, Srt s → ascB s = true
  | [], _ => rfl
  | [x], _ => rfl
  | a :: b :: r, h => by
    unfold ascB
    rw [Bool.and_eq_true]
    exact ⟨lt_lex.2 (h 0 1 a b (by omega) rfl rfl), srt_asc (b :: r) (srt_tail h)⟩
theorem vld_of {s : List Bd} (h1 : s.length ≤ 64) (h2 : Srt s) (h3 : ∀ y ∈ s, varB y.1 = true ∧ validT false 4 y.2 = true) : vldS s = true := by
  unfold vldS
  rw [Bool.and_eq_true, Bool.and_eq_true, decide_eq_true_eq, List.all_eq_true]
  exact ⟨h1, fun y hy => by rw [Bool.and_eq_true]; exact h3 y hy, srt_asc s h2⟩
theorem vld_all {s : List Bd} (h : vldS s = true) : ∀ y ∈ s, varB y.1 = true ∧ validT false 4 y.2 = true := by
  unfold vldS at h
  rw [Bool.and_eq_true, Bool.and_eq_true, List.all_eq_true] at h
  intro y hy
  have := h.2.1 y hy
  rw [Bool.and_eq_true] at this
  exact this
/-- What is bound by matching a ground term is valid. -/
theorem ext_vld {lim : Bool} {p t : Tm} {s s' : List Bd} (hs : vldS s = true) (ht : validT true 4 t = true) (h : extP lim p t s = some s') : ∀ y ∈ s', varB y.1 = true ∧ validT false 4 y.2 = true := by
  refine ext_all (P := fun y => varB y.1 = true ∧ validT false 4 y.2 = true) (Q := fun t => ∃ d, d ≤ 4 ∧ validT true d t = true) ?_ ?_ lim p t s s' h (vld_all hs) ⟨4, Nat.le_refl _, ht⟩
  · rintro n l ⟨d, hd, h⟩ x hx
    cases d with
    | zero => simp [validT] at h
    | succ d =>
      unfold validT at h
      split at h
      · rename_i he
        cases l with
        | nil => cases hx
        | cons a l => simp at he
      · rw [Bool.and_eq_true, List.all_eq_true] at h
        exact ⟨d, by omega, h.2 x hx⟩
  · rintro v t hv ⟨d, hd, h⟩
    exact ⟨hv, valid_up false hd ((ground_leaf d t).1 h).1⟩
theorem match_eq (p t : Tm) (s : List Bd) (hs : vldS s = true) (ht : validT true 4 t = true) : matchP p t s = match extP false p t s with
    | some s' => if vldS s' = true then some s' else none
    | none => none := by
  unfold matchP
  rw [hs, ht]
  simp only [Bool.and_self, if_true]
  rw [ext_lim p t s (vld_srt hs).1 (vld_srt hs).2]
  cases he : extP false p t s with
  | none => rfl
  | some s' =>
    have h1 := (ext_keeps false p t s s' (vld_srt hs).1 he).1
    have h2 := ext_vld hs ht he
    unfold cut64
    simp only
    by_cases hl : s'.length ≤ 64
    · rw [if_pos hl, if_pos (vld_of hl h1 h2)]
    · rw [if_neg hl, if_neg (fun h => hl (vld_srt h).2)]
set_option maxRecDepth 100000 in
set_option maxHeartbeats 3200000 in
theorem rmatch_any (p t : Tm) (s : List Bd) (hz : sizeT p ≤ 900000) (B : Nat) (w : World) (sv pv tv : Value) (hB : B ≤ w.heap.size) (hs : SIn (· < B) w s sv) (hp : SlIn (· < B) w p.args pv) (ht : SlIn (· < B) w t.args tv) (hpn : p.nm.size ≤ maxLen) (htn : t.nm.size ≤ maxLen) :
    Calls Tryz.prog 27 #[.agg #[.string p.nm, pv], .agg #[.string t.nm, tv], sv] w (MtR (matchP p t s) w) := by
  obtain ⟨p1, c1, rfl⟩ := hp.form
  obtain ⟨p2, c2, rfl⟩ := ht.form
  obtain ⟨W2, hW2⟩ : ∃ W2, W2 = (w.alloc (.cells #[.string p.nm, .slice p1 p.args.length c1] 27)).alloc (.cells #[.string t.nm, .slice p2 t.args.length c2] 27) := ⟨_, rfl⟩
  have G2 : Gr w W2 := by rw [hW2]; exact (Gr.alloc _ _).more _
  have H2 : Hid (Has W2 w.heap.size #[.string p.nm, .slice p1 p.args.length c1]) := Lib.hid (by rw [hW2]; exact (Has.new w _ _).alloc _)
  have T2 : Hid (Has W2 (w.heap.size + 1) #[.string t.nm, .slice p2 t.args.length c2]) := Lib.hid (by rw [hW2]; exact Has.new1 w _ _ _)
  have CV := Lib.hid (fun w' (k : Below w.heap.size w w') => rvalid_any s B w' sv (Nat.le_trans hB k.size) (hs.deep k hB))
  have CE := Lib.hid (fun (hv : vldS s = true) w' (k : Below w.heap.size w w') => rext_any p t s (vld_srt hv).1 (by have := (vld_srt hv).2; omega) B w' sv _ _ (Nat.le_trans hB k.size) (hs.deep k hB) (hp.deep k hB) (ht.deep k hB) hpn htn)
  have CG := Lib.hid (fun w' (k : Below w.heap.size w w') => TermV.rground_any t B w' _ (Nat.le_trans hB k.size) htn (ht.deep k hB))
  have MN : Hid (vldS s = false ∨ validT true 4 t = false → matchP p t s = none) := Lib.hid (fun h => by
    unfold matchP
    rcases h with h | h <;> simp [h])
  have MO := Lib.hid (fun (hs : vldS s = true) (ht : validT true 4 t = true) (he : extP false p t s = none) => show matchP p t s = none from by rw [match_eq p t s hs ht, he])
  have MS := Lib.hid (fun (hs : vldS s = true) (ht : validT true 4 t = true) s' (he : extP false p t s = some s') => show matchP p t s = if vldS s' = true then some s' else none from by rw [match_eq p t s hs ht, he])
  have GG := Lib.hid G2
  clear hs hp ht hpn htn hz G2
  obtain ⟨vb, hvb⟩ : ∃ vb, vldS s = vb := ⟨_, rfl⟩
  rw [hvb] at CV MN CE MO MS
  generalize validT true 4 t = gb at *
  generalize p.nm = pn at *
  generalize p.args.length = pa at *
  generalize t.nm = tn at *
  generalize t.args.length = ta at *
  clear hvb
  obtain ⟨y1, y2, y3, y4, y5⟩ := T2.out.two
  unfold BndR at CE
  cases vb
  · clear CE CG MO MS
    have EO := Lib.hid (MN.out (Or.inl rfl))
    go_enter Tryz.func27, Tryz.ntmps27
    go_upto_region 1 with fail
    rw [← hW2]
    clear hW2
    go_wp2_with fail
    refine (CV.out _ GG.out.1).mono ?_
    rintro e w3 ⟨rfl, g3⟩
    have D3 := Lib.hid (next0 GG.out.1 g3.1)
    go_wp2_with fail
    refine bodyPost_ret (v := .tuple #[.slice none 0 0, .bool false]) (by simp [results, Tryz.results27, go_sem]) rfl ?_
    unfold MtR
    exact ⟨_, false, rfl, (fun h => by cases h), (fun _ => ⟨EO.out, rfl⟩), D3.out⟩
  · go_enter Tryz.func27, Tryz.ntmps27
    go_upto_region 1 with fail
    rw [← hW2]
    clear hW2
    go_wp2_with fail
    refine (CV.out _ GG.out.1).mono ?_
    rintro e w3 ⟨rfl, g3⟩
    have D3 := Lib.hid (next0 GG.out.1 g3.1)
    have T3 := Lib.hid (T2.out.step0 g3.1)
    have H3 := Lib.hid (H2.out.step0 g3.1)
    clear y1 y2 y3 y4 y5 g3 T2 H2
    obtain ⟨y1, y2, y3, y4, y5⟩ := T3.out.two
    go_wp2_with fail
    refine (CG.out _ D3.out).mono ?_
    rintro e w4 ⟨rfl, g4⟩
    have D4 := Lib.hid (next0 D3.out g4.1)
    cases gb
    · have EO := Lib.hid (MN.out (Or.inr rfl))
      clear CE MO MS
      go_wp2_with fail
      refine bodyPost_ret (v := .tuple #[.slice none 0 0, .bool false]) (by simp [results, Tryz.results27, go_sem]) rfl ?_
      unfold MtR
      exact ⟨_, false, rfl, (fun h => by cases h), (fun _ => ⟨EO.out, rfl⟩), D4.out⟩
    · have T4 := Lib.hid (T3.out.step0 g4.1)
      have H4 := Lib.hid (H3.out.step0 g4.1)
      clear y1 y2 y3 y4 y5 g4 T3 H3
      obtain ⟨y1, y2, y3, y4, y5⟩ := T4.out.two
      obtain ⟨z1, z2, z3, z4, z5⟩ := H4.out.two
      go_wp2_with fail
      refine (CE.out trivial _ D4.out).mono ?_
      rintro e w5 ⟨v5, f, rfl, h1, h2, hb5⟩
      have D5 := Lib.hid (next0 D4.out hb5)
      cases f
      · have EO := Lib.hid (MO.out trivial trivial (h2 rfl))
        clear MS MN h1 h2
        go_wp2_with fail
        refine bodyPost_ret (v := .tuple #[.slice none 0 0, .bool false]) (by simp [results, Tryz.results27, go_sem]) rfl ?_
        unfold MtR
        exact ⟨_, false, rfl, (fun h => by cases h), (fun _ => ⟨EO.out, rfl⟩), D5.out⟩
      · obtain ⟨s9, he, hI⟩ := h1 rfl
        have EO := Lib.hid (MS.out trivial trivial s9 he)
        have CW := Lib.hid (rvalid_any s9 w5.heap.size w5 v5 (Nat.le_refl _) hI)
        have I9 := Lib.hid (fun w' (k : Below w5.heap.size w5 w') => (hI.deep k (Nat.le_refl _)).wide (ok' := (· < w'.heap.size)) fun b hb => Nat.lt_of_lt_of_le hb k.size)
        clear MS MN MO h1 h2 he hI
        generalize vldS s9 = v9 at *
        go_wp2_with fail
        refine CW.out.mono ?_
        rintro e w6 ⟨rfl, g6⟩
        have D6 := Lib.hid (next0 D5.out g6.1)
        have J9 := Lib.hid (I9.out _ g6.1)
        clear g6
        cases v9
        · go_wp2_with fail
          refine bodyPost_ret (v := .tuple #[.slice none 0 0, .bool false]) (by simp [results, Tryz.results27, go_sem]) rfl ?_
          unfold MtR
          exact ⟨_, false, rfl, (fun h => by cases h), (fun _ => ⟨by rw [EO.out]; rfl, rfl⟩), D6.out⟩
        · go_wp2_with fail
          refine bodyPost_ret (v := .tuple #[v5, .bool true]) (by simp [results, Tryz.results27, go_sem]) rfl ?_
          unfold MtR
          exact ⟨_, true, rfl, (fun _ => ⟨s9, by rw [EO.out]; rfl, J9.out⟩), (fun h => by cases h), D6.out⟩
end UniT
end Go.Proofs.YtjfgnmmcdgpiiaaGreatDoor
/- Small terms at the bound 100; few and same of gameplayerlaw07. Made by genuniv.py. No conditions. -/
namespace Go.Proofs.YtjfgnmmcdgpiiaaGreatDoor
open Go Go.RowKit
namespace UniV
open LexM TermM TermI Kit TermN TermS UniK UniM UniA
set_option maxRecDepth 100000 in
set_option maxHeartbeats 1600000 in
theorem parts_any (D : Nat) : ∀ (t : Tm) (B : Nat) (w : World) (sv : Value), D ≤ 100 → B ≤ w.heap.size → SlIn (· < B) w t.args sv →
    Calls Tryz.prog 49 #[.agg #[.string t.nm, sv], .int .i64 100, .int .i64 D] w fun e w' => e = .returned (.int .i64 (partsT 100 D t)) ∧ Gr w w' := by
  induction D with
  | zero =>
    intro t B w sv hD hB h
    obtain ⟨p, c, rfl, hn, hc, hm, hR⟩ := h.row
    clear hR h
    go_enter Tryz.func49, Tryz.ntmps49
    go_wp2_with fail
    go_ret
    exact ⟨rfl, Gr.alloc _ _⟩
  | succ D ih =>
    rintro ⟨n, l⟩ B w sv hD hB h
    dsimp only [Tm.args, Tm.nm] at h ⊢
    obtain ⟨p, c, rfl, hn, hc, hm, hR⟩ := h.row
    obtain ⟨E, hE⟩ : ∃ E : Int, E = ((D + 1 : Nat) : Int) := ⟨_, rfl⟩
    rw [← hE]
    have hE1 : 1 ≤ E := by omega
    have hE2 : E ≤ 100 := by omega
    have hE3 : (D : Int) = E - 1 := by omega
    have IH : Hid (∀ (t : Tm) (w : World) (v : Value), B ≤ w.heap.size → SlIn (· < B) w t.args v → Calls Tryz.prog 49 #[.agg #[.string t.nm, v], .int .i64 100, .int .i64 (E - 1)] w fun e w' => e = .returned (.int .i64 (partsT 100 D t)) ∧ Gr w w') :=
      Lib.hid (fun t w v hB h => by rw [← hE3]; exact ih t B w v (by omega) hB h)
    clear hE3 hE
    have NX := Lib.hid (upN_next 100 D l)
    have ST := Lib.hid (upN_stuck 100 D l)
    have PB : Hid (∀ t, partsT 100 D t ≤ 20000) := Lib.hid (fun t => by
      have h1 := parts_le 100 D t
      have h2 : (D + 1) * (100 + 1) ≤ 101 * 102 := Nat.le_trans (Nat.mul_le_mul_right 101 (show _ ≤ 102 by omega)) (by decide)
      omega)
    have UB : Hid (∀ k, upN 100 D (l.take k) ≤ 20000) := Lib.hid (fun k => by
      have h1 : upN 100 D (l.take k) = partsT 100 (D + 1) (.mk n (l.take k)) := by simp only [partsT]; rfl
      have h2 := parts_le 100 (D + 1) (.mk n (l.take k))
      have h3 : (D + 1 + 1) * (100 + 1) ≤ 101 * 102 := Nat.le_trans (Nat.mul_le_mul_right 101 (show _ ≤ 102 by omega)) (by decide)
      omega)
    have FL : Hid (upN 100 D (l.take l.length) = upN 100 D l) := Lib.hid (by simp)
    have RT : Hid (partsT 100 (D + 1) (.mk n l) = upN 100 D l) := Lib.hid (by simp only [partsT]; rfl)
    have U0 : Hid (upN 100 D (l.take 0) = 1) := Lib.hid (by simp [upN])
    have HB := Lib.hid hB
    have HR := Lib.hid hR
    generalize partsT 100 (D + 1) (.mk n l) = R at *
    generalize hm' : l.length = m at *
    have HM := Lib.hid hm'
    clear ih hR h hm' hn
    unfold maxLen at hm
    go_enter Tryz.func49, Tryz.ntmps49
    go_wp2_with fail
    go_loopw [7, 16] (fun d i wr => ∃ k : Nat, k ≤ m ∧ i = .int .i64 k ∧ d = .int .i64 (upN 100 D (l.take k)) ∧ Hid (Gr (w.alloc (.cells #[.string n, .slice p m c] 27)) wr)) (fun _ i _ => m - (intOf i).toNat)
    case atStart => exact ⟨0, Nat.zero_le _, rfl, by rw [U0.out]; rfl, Lib.hid (Gr.refl _)⟩
    case round =>
      obtain ⟨k, hk, rfl, rfl, hg⟩ := hrel
      have hd := UB.out k
      by_cases hlt : k < m
      · obtain ⟨t, b, o, q, d, ht, rfl, hb, c1, c2, hs, hts⟩ := (HR.out.gr ((Gr.alloc _ _).trans hg.out) HB.out) k (by rw [HM.out]; exact hlt)
        obtain ⟨b0, b1, _, _, hbl⟩ := (hg.out.has (Has.new w _ _)).two
        have n1 := NX.out k t ht
        have n2 := PB.out t
        by_cases hst : 100 < upN 100 D (l.take k)
        · have HF := Lib.hid (ST.out k hst)
          clear n1
          go_wp2_with fail
          go_ret
          exact ⟨ret_int (by rw [RT.out, HF.out]), (Gr.alloc _ _).trans hg.out⟩
        · rw [if_neg hst] at n1
          have HD := Lib.hid n1
          have HS := Lib.hid hs
          clear n1 ht hs
          have hst' : upN 100 D (l.take k) ≤ 100 := by omega
          go_wp2_with fail
          refine (IH.out _ _ _ (Nat.le_trans HB.out ((Gr.alloc _ _).trans hg.out).size) HS.out).mono ?_
          rintro e w' ⟨rfl, g2⟩
          have hg2 := Lib.hid (hg.out.trans g2)
          clear g2
          go_wp2_with fail
          go_roundw
          case rel => exact ⟨k + 1, by omega, by go_num, by rw [HD.out]; first | rfl | (congr 1; omega), hg2⟩
          case measure => simp [intOf]; omega
      · obtain rfl : k = m := by omega
        have HF := Lib.hid FL.out
        go_wp2_with fail
        go_ret
        exact ⟨ret_int (by rw [RT.out, HF.out]), (Gr.alloc _ _).trans hg.out⟩
theorem small_any (t : Tm) (B : Nat) (w : World) (sv : Value) (hB : B ≤ w.heap.size) (h : SlIn (· < B) w t.args sv) :
    Calls Tryz.prog 25 #[.agg #[.string t.nm, sv], .int .i64 100] w fun e w' => e = .returned (.bool (decide (partsT 100 100 t ≤ 100))) ∧ Gr w w' := by
  obtain ⟨p, c, rfl, hn, hc, hm, hR⟩ := h.row
  have HC : Hid (Calls Tryz.prog 49 #[.agg #[.string t.nm, .slice p t.args.length c], .int .i64 100, .int .i64 100] (w.alloc (.cells #[.string t.nm, .slice p t.args.length c] 27)) fun e w' => e = .returned (.int .i64 (partsT 100 100 t)) ∧ Gr (w.alloc (.cells #[.string t.nm, .slice p t.args.length c] 27)) w') :=
    Lib.hid (parts_any 100 t B _ _ (by omega) (Nat.le_trans hB (Gr.alloc _ _).size) (h.gr (Gr.alloc _ _) hB))
  clear hR h hn
  go_enter Tryz.func25, Tryz.ntmps25
  go_wp2_with fail
  refine HC.out.mono ?_
  rintro e w' ⟨rfl, g2⟩
  have hg2 := Lib.hid ((Gr.alloc _ _).trans g2)
  clear g2
  go_wp2_with fail
  go_ret
  exact ⟨ret_bool (by rw [Bool.eq_iff_iff]; simp; omega), hg2.out⟩
theorem gr_dr {a b : World} (h : Gr a b) : Gr a b.drew := h.trans (Gr.drew b)
theorem ret_b {a b : Bool} (h : a = b) : Ending.returned (Value.bool a) = Ending.returned (Value.bool b) := by rw [h]
/-- At most 80 bindings, whose terms are small. -/
def SmS (s : List Bd) : Prop := s.length ≤ 80 ∧ ∀ y ∈ s, partsT 100 100 y.2 ≤ 100
def FewS (s : List Bd) (w : World) (e : Ending) (w' : World) : Prop := ∃ b : Bool, e = .returned (.bool b) ∧ (b = true → SmS s) ∧ Gr w w'
set_option maxRecDepth 100000 in
set_option maxHeartbeats 1600000 in
theorem few_any (s : List Bd) (B : Nat) (w : World) (sv : Value) (hB : B ≤ w.heap.size) (hs : SIn (· < B) w s sv) :
    Calls Tryz.prog 12 #[sv] w (FewS s w) := by
  obtain ⟨p, c, rfl, hc, hm, hR⟩ := SIn.row hs
  have hlm : s.length ≤ maxLen := Nat.le_trans hc hm
  unfold maxLen at hlm
  have AT := Lib.hid (fun (t : Tm) (w' : World) (v : Value) (hw : B ≤ w'.heap.size) (h : SlIn (· < B) w' t.args v) => small_any t B w' v hw h)
  have HR := Lib.hid hR
  have HB := Lib.hid hB
  clear hR hs hB hc hm
  generalize hln : s.length = n at *
  have HN := Lib.hid hln
  clear hln
  unfold FewS
  by_cases h8 : 80 < n
  · have h8' : (80 : Int) < n := by omega
    go_enter Tryz.func12, Tryz.ntmps12
    go_wp2_with fail
    go_ret
    exact ⟨false, rfl, (fun h => by cases h), Gr.refl _⟩
  · have h8' : ¬ ((80 : Int) < n) := by omega
    go_enter Tryz.func12, Tryz.ntmps12
    go_wp2_with fail
    go_loopw [3] (fun i wL => ∃ k : Nat, k ≤ n ∧ i = .int .i64 k ∧ Hid (Gr w wL) ∧ Hid (∀ j y, j < k → s[j]? = some y → partsT 100 100 y.2 ≤ 100)) (fun i _ => n - (intOf i).toNat)
    case atStart => exact ⟨0, by omega, rfl, Lib.hid (Gr.refl _), Lib.hid (fun j y h => by omega)⟩
    case round =>
      obtain ⟨k, hk, rfl, hG, hA⟩ := hrel
      by_cases hlt : k < n
      · obtain ⟨x, b, o, q, d, ht, rfl, hb, c1, c2, c3, hs, hts, htv⟩ := (RowS.gr HR.out hG.out HB.out) k (by rw [HN.out]; exact hlt)
        have AK := Lib.hid (AT.out x.2 wr _ (Nat.le_trans HB.out hG.out.size) hs)
        obtain ⟨A2, hA2⟩ : ∃ A2, decide (partsT 100 100 x.2 ≤ 100) = A2 := ⟨_, rfl⟩
        have NX := Lib.hid (fun (h : A2 = true) => show ∀ j y, j < k + 1 → s[j]? = some y → partsT 100 100 y.2 ≤ 100 from fun j y hj hy => by
          by_cases e : j = k
          · subst e
            rw [ht] at hy
            cases hy
            rw [h, decide_eq_true_eq] at hA2
            exact hA2
          · exact hA.out j y (by omega) hy)
        rw [hA2] at AK
        clear ht hs hts hA2
        go_wp2_with fail
        refine AK.out.mono ?_
        rintro e w5 ⟨rfl, g5⟩
        have G5 := Lib.hid (hG.out.trans g5)
        clear g5 c1 c2 c3
        cases A2
        · go_wp2_with fail
          go_ret
          exact ⟨false, rfl, (fun h => by cases h), G5.out⟩
        · have N1 := Lib.hid (NX.out rfl)
          go_wp2_with fail
          go_roundw
          case rel => exact ⟨k + 1, by omega, by go_num, G5, N1⟩
          case measure => simp [intOf] <;> omega
      · obtain rfl : k = n := by omega
        have HS : Hid (SmS s) := Lib.hid ⟨by rw [HN.out]; omega, fun y hy => by
          obtain ⟨j, hj⟩ := List.mem_iff_getElem?.1 hy
          exact hA.out j y (by rw [← HN.out]; exact (List.getElem?_eq_some_iff.1 hj).1) hj⟩
        go_wp2_with fail
        go_ret
        exact ⟨true, rfl, (fun _ => HS.out), hG.out⟩
theorem drop_at {s r : List Bd} {k : Nat} {x y : Bd} (h : s[k]? = some x) (h' : r[k]? = some y) : s.drop k = r.drop k ↔ (x.1 = y.1 ∧ x.2 = y.2) ∧ s.drop (k + 1) = r.drop (k + 1) := by
  obtain ⟨h1, rfl⟩ := List.getElem?_eq_some_iff.1 h
  obtain ⟨h2, rfl⟩ := List.getElem?_eq_some_iff.1 h'
  rw [List.drop_eq_getElem_cons h1, List.drop_eq_getElem_cons h2, List.cons.injEq, Prod.ext_iff]
set_option maxRecDepth 100000 in
set_option maxHeartbeats 3200000 in
theorem same_any (s r : List Bd) (R : Bool) (hRR : R = true ↔ s = r) (B : Nat) (w : World) (sv rv : Value) (hB : B ≤ w.heap.size) (hs : SIn (· < B) w s sv) (hr : SIn (· < B) w r rv) :
    Calls Tryz.prog 28 #[sv, rv] w fun e w' => e = .returned (.bool R) ∧ Gr w w' := by
  obtain ⟨p, c, rfl, hc, hm, hR⟩ := SIn.row hs
  obtain ⟨p', c', rfl, hc', hm', hR'⟩ := SIn.row hr
  have hlm : s.length ≤ maxLen := Nat.le_trans hc hm
  unfold maxLen at hlm
  have HR := Lib.hid hR
  have HR' := Lib.hid hR'
  have HB := Lib.hid hB
  have HQ := Lib.hid hRR
  have L1 := Lib.hid (fun k x y (h : s[k]? = some x) (h' : r[k]? = some y) => drop_at h h')
  have L3 := Lib.hid (fun k (h : s.length ≤ k) (h' : r.length ≤ k) => show s.drop k = r.drop k from by rw [List.drop_eq_nil_of_le h, List.drop_eq_nil_of_le h'])
  clear hs hr hR hR' hB hc hm hc' hm' hRR
  generalize hln : s.length = m at *
  generalize hln' : r.length = m' at *
  have HM := Lib.hid hln
  have HM' := Lib.hid hln'
  clear hln hln'
  by_cases hmm : m = m'
  · subst hmm
    have L0 : Hid (R = true ↔ s.drop 0 = r.drop 0) := Lib.hid (by simpa using HQ.out)
    go_enter Tryz.func28, Tryz.ntmps28
    go_wp2_with fail
    go_loopw [5] (fun i wr => ∃ k : Nat, k ≤ m ∧ i = .int .i64 k ∧ Hid (R = true ↔ s.drop k = r.drop k) ∧ Hid (Gr w wr)) (fun i _ => m - (intOf i).toNat)
    case atStart => exact ⟨0, Nat.zero_le _, rfl, L0, Lib.hid (Gr.refl _)⟩
    case round =>
      obtain ⟨k, hk, rfl, hA, hg⟩ := hrel
      by_cases hlt : k < m
      · obtain ⟨t, b, o, q, d, ht, rfl, hb, c1, c2, c3, hs, hts, htv⟩ := (RowS.gr HR.out hg.out HB.out) k (by rw [HM.out]; exact hlt)
        obtain ⟨t', b', o', q', d', ht', rfl, hb', c1', c2', c3', hs', hts', htv'⟩ := (RowS.gr HR'.out hg.out HB.out) k (by rw [HM'.out]; exact hlt)
        have N1 := Lib.hid (hA.out.trans (L1.out k t t' ht ht'))
        have hgb : b < wr.heap.size := Nat.lt_of_lt_of_le hb (Nat.le_trans HB.out hg.out.size)
        have hgb' : b' < wr.heap.size := Nat.lt_of_lt_of_le hb' (Nat.le_trans HB.out hg.out.size)
        obtain ⟨z, hz⟩ : ∃ z : Bool, Hid (z = true ↔ t.2 = t'.2) := ⟨decide (cmpT t.2 t'.2 = 0), Lib.hid (by rw [decide_eq_true_iff]; exact cmp_zero t.2 t'.2)⟩
        have KK := Lib.hid (fun w2 (g : Gr wr w2) => TermEq.term_any t.2 z B w2 _ t'.2 _ hz.out (Nat.le_trans HB.out (hg.out.trans g).size) (hs.gr g (Nat.le_trans HB.out hg.out.size)) (hs'.gr g (Nat.le_trans HB.out hg.out.size)))
        obtain ⟨zz, hzz⟩ : ∃ zz, (t.1.toList == t'.1.toList) = zz := ⟨_, rfl⟩
        have HZ : Hid (t.1 = t'.1 ↔ zz = true) := Lib.hid (by rw [← hzz, beq_iff_eq, ByteArray.toList_eq, ByteArray.toList_eq]; exact ⟨fun h => by rw [h], bytes_inj⟩)
        have hzz2 : (t.1.toList != t'.1.toList) = !zz := by rw [bne, hzz]
        clear hs hs' hts hts' ht ht' hA HR HR' HB hb hb' L0 L1 htv htv'
        generalize t.2.nm = tn at *
        generalize t'.2.nm = tn' at *
        generalize t.2.args.length = ta at *
        generalize t'.2.args.length = ta' at *
        generalize t.1 = tb at *
        generalize t'.1 = tb' at *
        have Hb : Hid (∀ w', Gr wr w' → w'.cell? ⟨b, o + k * 3, none⟩ = some (.string tb) ∧ w'.cell? ⟨b, o + k * 3 + 1, none⟩ = some (.string tn) ∧ w'.cell? ⟨b, o + k * 3 + 1 + 1, none⟩ = some (.slice q ta d) ∧ w'.cell? ⟨b', o' + k * 3, none⟩ = some (.string tb') ∧ w'.cell? ⟨b', o' + k * 3 + 1, none⟩ = some (.string tn') ∧ w'.cell? ⟨b', o' + k * 3 + 1 + 1, none⟩ = some (.slice q' ta' d') ∧ Hid (Gr wr w')) := Lib.hid (fun w' g => ⟨(g.cell hgb).trans c1, (g.cell hgb).trans c2, (g.cell hgb).trans c3, (g.cell hgb').trans c1', (g.cell hgb').trans c2', (g.cell hgb').trans c3', Lib.hid g⟩)
        cases zz
        · have HF : Hid (R = false) := Lib.hid (by
            cases hR9 : R with
            | false => rfl
            | true => have := HZ.out.1 (N1.out.1 hR9).1.1; cases this)
          clear N1 hz KK Hb HZ
          go_upto_region 6 with fail
          go_cut [41] (fun s41 wx => s41 = .bool true ∧ Hid (Gr wr wx))
          case first =>
            go_quiet (fail)
            all_goals
              go_wp2_with fail
              go_meet
              exact ⟨rfl, Lib.hid (by first | exact Gr.drewN _ _ | exact Gr.drew _ | exact Gr.refl _)⟩
          case rest =>
            obtain ⟨rfl, G5⟩ := hcut
            go_wp2_with fail
            go_ret
            exact ⟨ret_b HF.out.symm, hg.out.trans G5.out⟩
        · have N2 : Hid (R = true ↔ z = true ∧ s.drop (k + 1) = r.drop (k + 1)) := Lib.hid (N1.out.trans ⟨fun hh => ⟨hz.out.2 hh.1.2, hh.2⟩, fun hh => ⟨⟨HZ.out.2 rfl, hz.out.1 hh.1⟩, hh.2⟩⟩)
          clear N1 hz HZ
          go_upto_region 6 with fail
          go_cut [41] (fun s41 wx => s41 = .bool (!z) ∧ Hid (Gr wr wx))
          case first =>
            clear c1 c2 c3 c1' c2' c3' N2 HQ
            have hs0 := Hb.out _ (gr_dr (Gr.refl wr))
            go_region_held3 (fun w' => w'.cell? ⟨b, o + k * 3, none⟩ = some (.string tb) ∧ w'.cell? ⟨b, o + k * 3 + 1, none⟩ = some (.string tn) ∧ w'.cell? ⟨b, o + k * 3 + 1 + 1, none⟩ = some (.slice q ta d) ∧ w'.cell? ⟨b', o' + k * 3, none⟩ = some (.string tb') ∧ w'.cell? ⟨b', o' + k * 3 + 1, none⟩ = some (.string tn') ∧ w'.cell? ⟨b', o' + k * 3 + 1 + 1, none⟩ = some (.slice q' ta' d') ∧ Hid (Gr wr w'))
              (first | (with_reducible assumption) | (with_reducible exact ⟨‹_›, ‹_›, ‹_›, ‹_›, ‹_›, ‹_›, ‹_›⟩) | (with_reducible refine Hb.out _ ?_; repeat (first | (with_reducible exact Hid.out (by assumption)) | (with_reducible exact Gr.refl _) | (with_reducible refine gr_dr ?_) | (with_reducible refine Gr.more ?_ _))))
              (first | (go_at_call 18; (try go_split_ands); (with_reducible refine (KK.out _ (by repeat (first | (with_reducible exact Hid.out (by assumption)) | (with_reducible exact Gr.refl _) | (with_reducible refine gr_dr ?_) | (with_reducible refine Gr.more ?_ _)))).mono ?_); rintro e w4 ⟨rfl, q0⟩; (have qg : Gr wr w4 := by (refine Gr.trans ?_ q0; repeat (first | (with_reducible exact Hid.out (by assumption)) | (with_reducible exact Gr.refl _) | (with_reducible refine gr_dr ?_) | (with_reducible refine Gr.more ?_ _)))); clear q0; obtain ⟨z1, z2, z3, z4, z5, z6, z7⟩ := Hb.out _ qg))
            all_goals
              go_wp2_with fail
              go_meet
              exact ⟨rfl, Lib.hid qg⟩
          case rest =>
            obtain ⟨rfl, G5⟩ := hcut
            cases z
            · have HF : Hid (R = false) := Lib.hid (by
                cases hR9 : R with
                | false => rfl
                | true => have := (N2.out.1 hR9).1; cases this)
              go_wp2_with fail
              go_ret
              exact ⟨ret_b HF.out.symm, hg.out.trans G5.out⟩
            · have N3 : Hid (R = true ↔ s.drop (k + 1) = r.drop (k + 1)) := Lib.hid (N2.out.trans ⟨fun hh => hh.2, fun hh => ⟨rfl, hh⟩⟩)
              go_wp2_with fail
              go_roundw
              case rel => exact ⟨k + 1, by omega, by go_num, N3, Lib.hid (hg.out.trans G5.out)⟩
              case measure => simp [intOf]; omega
      · obtain rfl : k = m := by omega
        have HA2 : Hid (R = true) := Lib.hid (hA.out.2 (L3.out k (Nat.le_refl _) (Nat.le_refl _)))
        go_wp2_with fail
        go_ret
        exact ⟨ret_b HA2.out.symm, hg.out⟩
  · have HF : Hid (R = false) := Lib.hid (by
      cases hR9 : R with
      | false => rfl
      | true =>
        have hh := HQ.out.1 hR9
        have h1 := HM.out
        have h2 := HM'.out
        rw [hh] at h1
        omega)
    have hmi : ((m : Int) == (m' : Int)) = false := by rw [beq_eq_false_iff_ne]; omega
    have hmj : ((m : Int) != (m' : Int)) = true := by rw [bne, hmi]; rfl
    go_enter Tryz.func28, Tryz.ntmps28
    go_wp2_with fail
    go_ret
    exact ⟨ret_b HF.out.symm, Gr.refl _⟩
end UniV
end Go.Proofs.YtjfgnmmcdgpiiaaGreatDoor
/- The walk of UnifyMatches, awake's contract as a premise. No other conditions. -/
namespace Go.Proofs.YtjfgnmmcdgpiiaaGreatDoor
open Go Go.RowKit
namespace UniW
open LexM TermM TermI Kit TermN TermS TermU TermH UniK UniM UniA UniB UniC UniD UniE UniG UniJ UniO UniL UniP UniQ UniT UniV
/-- What awake leaves. -/
def Aw (w : World) : Prop := ∀ w', Below w.heap.size w w' → Calls Tryz.prog 13 #[] w' fun e w'' => e = .returned (.bool true) ∧ Below w'.heap.size w' w''
theorem size_of {t : Tm} (h : partsT 100 100 t ≤ 100) : sizeT t ≤ 100 := by
  have := (parts_size 100 100 t h).1
  omega
set_option maxRecDepth 100000 in
set_option maxHeartbeats 3200000 in
theorem matches_ (p t : Tm) (s : List Bd) (w : World) (sv pv tv : Value) (hs : SIn (· < w.heap.size) w s sv) (hp : SlIn (· < w.heap.size) w p.args pv) (ht : SlIn (· < w.heap.size) w t.args tv) (hpn : p.nm.size ≤ maxLen) (htn : t.nm.size ≤ maxLen) (AW : Aw w) :
    Calls Tryz.prog 5 #[.agg #[.string p.nm, pv], .agg #[.string t.nm, tv], sv] w fun e w' => e = .returned (.bool true) ∧ Below w.heap.size w w' := by
  obtain ⟨p1, c1, rfl⟩ := hp.form
  obtain ⟨p2, c2, rfl⟩ := ht.form
  obtain ⟨W2, hW2⟩ : ∃ W2, W2 = (w.alloc (.cells #[.string p.nm, .slice p1 p.args.length c1] 27)).alloc (.cells #[.string t.nm, .slice p2 t.args.length c2] 27) := ⟨_, rfl⟩
  have G2 : Gr w W2 := by rw [hW2]; exact (Gr.alloc _ _).more _
  have H2 : Hid (Has W2 w.heap.size #[.string p.nm, .slice p1 p.args.length c1]) := Lib.hid (by rw [hW2]; exact (Has.new w _ _).alloc _)
  have T2 : Hid (Has W2 (w.heap.size + 1) #[.string t.nm, .slice p2 t.args.length c2]) := Lib.hid (by rw [hW2]; exact Has.new1 w _ _ _)
  have CF := Lib.hid (fun w' (k : Below w.heap.size w w') => few_any s w.heap.size w' sv k.size (hs.deep k (Nat.le_refl _)))
  have C1 := Lib.hid (fun w' (k : Below w.heap.size w w') => UniV.small_any p w.heap.size w' _ k.size (hp.deep k (Nat.le_refl _)))
  have C2 := Lib.hid (fun w' (k : Below w.heap.size w w') => UniV.small_any t w.heap.size w' _ k.size (ht.deep k (Nat.le_refl _)))
  have CM := Lib.hid (fun (h1 : SmS s) (h2 : partsT 100 100 t ≤ 100) w' (k : Below w.heap.size w w') => match_any p t s (by have := size_of h2; omega) (fun y hy => by have := size_of (h1.2 y hy); omega) w.heap.size w' sv _ _ k.size (hs.deep k (Nat.le_refl _)) (hp.deep k (Nat.le_refl _)) (ht.deep k (Nat.le_refl _)) hpn htn)
  have CR := Lib.hid (fun (h1 : partsT 100 100 p ≤ 100) w' (k : Below w.heap.size w w') => rmatch_any p t s (by have := size_of h1; omega) w.heap.size w' sv _ _ k.size (hs.deep k (Nat.le_refl _)) (hp.deep k (Nat.le_refl _)) (ht.deep k (Nat.le_refl _)) hpn htn)
  have GG := Lib.hid G2
  have AW' := Lib.hid AW
  have HH := Lib.hid (fun w' (k : Below W2.heap.size W2 w') => And.intro (H2.out.step0 k).two (T2.out.step0 k).two)
  clear hs hp ht hpn htn AW H2 T2 G2
  obtain ⟨b1, hb1⟩ : ∃ b, decide (partsT 100 100 p ≤ 100) = b := ⟨_, rfl⟩
  obtain ⟨b2, hb2⟩ : ∃ b, decide (partsT 100 100 t ≤ 100) = b := ⟨_, rfl⟩
  rw [hb1] at C1
  rw [hb2] at C2
  have CR := Lib.hid (fun (h : b1 = true) => CR.out (by rw [h, decide_eq_true_eq] at hb1; exact hb1))
  have CM := Lib.hid (fun (hs : SmS s) (h : b2 = true) => CM.out hs (by rw [h, decide_eq_true_eq] at hb2; exact hb2))
  clear hb1 hb2
  generalize matchP p t s = o9 at *
  generalize p.nm = pn at *
  generalize p.args.length = pa at *
  generalize t.nm = tn at *
  generalize t.args.length = ta at *
  unfold FewS at CF
  unfold MtR at CM CR
  unfold Aw at AW'
  obtain ⟨⟨y1, y2, _⟩, z1, z2, _⟩ := HH.out _ (Below.refl _ _)
  go_enter Tryz.func5, Tryz.ntmps5
  go_upto_region 1 with fail
  rw [← hW2]
  clear hW2
  go_wp2_with fail
  refine (CF.out _ GG.out.1).mono ?_
  rintro e w3 ⟨b, rfl, hsm, g3⟩
  have D3 := Lib.hid (next0 GG.out.1 g3.1)
  have K3 := Lib.hid g3.1
  have SM := Lib.hid hsm
  clear g3 hsm y1 y2 z1 z2
  obtain ⟨⟨y1, y2, _⟩, z1, z2, _⟩ := HH.out _ K3.out
  cases b
  · clear CM CR C1 C2
    go_wp2_with fail
    refine (AW'.out _ D3.out).mono ?_
    rintro e w4 ⟨rfl, k4⟩
    have D4 := Lib.hid (next0 D3.out k4)
    go_wp2_with fail
    go_ret
    exact ⟨rfl, D4.out⟩
  · have CN := Lib.hid (CM.out (SM.out rfl))
    clear CM
    go_wp2_with fail
    refine (C1.out _ D3.out).mono ?_
    rintro e w4 ⟨rfl, g4⟩
    have D4 := Lib.hid (next0 D3.out g4.1)
    have K4 := Lib.hid (next0 K3.out g4.1)
    clear g4 y1 y2 z1 z2
    obtain ⟨⟨y1, y2, _⟩, z1, z2, _⟩ := HH.out _ K4.out
    cases b1
    · clear CN CR C1 C2
      go_wp2_with fail
      refine (AW'.out _ D4.out).mono ?_
      rintro e w5 ⟨rfl, k5⟩
      have D5 := Lib.hid (next0 D4.out k5)
      go_wp2_with fail
      go_ret
      exact ⟨rfl, D5.out⟩
    · have CS := Lib.hid (CR.out (by trivial))
      clear CR
      go_wp2_with fail
      refine (C2.out _ D4.out).mono ?_
      rintro e w5 ⟨rfl, g5⟩
      have D5 := Lib.hid (next0 D4.out g5.1)
      have K5 := Lib.hid (next0 K4.out g5.1)
      clear g5 y1 y2 z1 z2
      obtain ⟨⟨y1, y2, _⟩, z1, z2, _⟩ := HH.out _ K5.out
      cases b2
      · clear CN CS C1 C2
        go_wp2_with fail
        refine (AW'.out _ D5.out).mono ?_
        rintro e w6 ⟨rfl, k6⟩
        have D6 := Lib.hid (next0 D5.out k6)
        go_wp2_with fail
        go_ret
        exact ⟨rfl, D6.out⟩
      · have CO := Lib.hid (CN.out (by trivial))
        go_wp2_with fail
        refine (CO.out _ D5.out).mono ?_
        rintro e w6 ⟨v6, f6, rfl, h1, h2, k6⟩
        have D6 := Lib.hid (next0 D5.out k6)
        have K6 := Lib.hid (next0 K5.out k6)
        have M1 := Lib.hid (And.intro h1 h2)
        clear h1 h2 k6 y1 y2 z1 z2
        obtain ⟨⟨y1, y2, _⟩, z1, z2, _⟩ := HH.out _ K6.out
        go_wp2_with fail
        refine (CS.out _ D6.out).mono ?_
        rintro e w7 ⟨v7, f7, rfl, h1, h2, k7⟩
        have D7 := Lib.hid (next0 D6.out k7)
        have M2 := Lib.hid (And.intro h1 h2)
        have BW := Lib.hid k7
        clear h1 h2 k7 y1 y2 z1 z2
        have key : Hid (f6 = f7 ∧ ∃ s9, SIn (· < w7.heap.size) w7 s9 v6 ∧ SIn (· < w7.heap.size) w7 s9 v7) := Lib.hid (by
          cases f6
          · obtain ⟨ho, hv⟩ := M1.out.2 rfl
            cases f7
            · obtain ⟨ho', hv'⟩ := M2.out.2 rfl
              rw [hv, hv']
              exact ⟨rfl, [], SIn.nil _ _, SIn.nil _ _⟩
            · obtain ⟨s9, h9, _⟩ := M2.out.1 rfl
              rw [ho] at h9
              cases h9
          · obtain ⟨s9, h9, hI⟩ := M1.out.1 rfl
            cases f7
            · obtain ⟨ho', hv'⟩ := M2.out.2 rfl
              rw [ho'] at h9
              cases h9
            · obtain ⟨s8, h8, hI8⟩ := M2.out.1 rfl
              rw [h9] at h8
              cases h8
              exact ⟨rfl, s9, (hI.deep BW.out (Nat.le_refl _)).wide fun b hb => Nat.lt_of_lt_of_le hb BW.out.size, hI8⟩)
        obtain ⟨rfl, s9, hI6, hI7⟩ := key.out
        have SA := Lib.hid (same_any s9 s9 true (by simp) w7.heap.size w7 v6 v7 (Nat.le_refl _) hI6 hI7)
        clear hI6 hI7 key M1 M2 CN CS
        have hff : (f6 == f6) = true := by simp
        go_wp2_with fail
        refine SA.out.mono ?_
        rintro e w8 ⟨rfl, g8⟩
        have D8 := Lib.hid (next0 D7.out g8.1)
        clear g8
        cases f6
        all_goals
          go_wp2_with fail
          refine (AW'.out _ D8.out).mono ?_
          rintro e w9 ⟨rfl, k9⟩
          have D9 := Lib.hid (next0 D8.out k9)
          go_wp2_with fail
          go_ret
          exact ⟨rfl, D9.out⟩
end UniW
end Go.Proofs.YtjfgnmmcdgpiiaaGreatDoor
/- gameplayerplain.SmallRules: it answers, and what it says yes to is small. Conditions: at most a thousand rules are asked for; small heads have short keys. -/
namespace Go.Proofs.YtjfgnmmcdgpiiaaGreatDoor
open Go Go.RowKit
namespace SmrA
open Kit LexM TermM TermI TermN TermS TermU UniM UniK UniA UniD UniE UniG UniR LigM LigP LigG LigD LigQ LigE LigW LigV LigU LigX LigY LigZ
theorem klen_nm {t : Tm} : t.nm.size ≤ klen t := by
  obtain ⟨n, l⟩ := t
  simp only [klen, Tm.nm]
  omega
theorem gn_klen {N : Nat} (t : Tm) : klen t ≤ N → sizeT t ≤ 20 → GN N t := by
  induction t using Tm.ind with
  | h n l ih =>
    intro h1 h2
    have hk : n.size ≤ klen (.mk n l) := klen_nm (t := .mk n l)
    have hs := len_size l
    simp only [sizeT] at h2
    simp only [klen] at h1
    refine gn_mk (by simp only [klen] at hk; omega) (by omega) fun x hx => ih x hx ?_ ?_
    · have := klenL_mem hx; omega
    · have := size_mem hx; omega
theorem size_20 {t : Tm} (h : partsT 20 20 t ≤ 20) : sizeT t ≤ 20 := by
  have := (parts_size 20 20 t h).1
  omega
/-- A small rule. -/
def GR (r : Rl) : Prop := sizeT r.1 ≤ 20 ∧ r.2.length ≤ 8 ∧ ∀ x ∈ r.2, sizeT x.2 ≤ 20
/-- What SmallRules leaves. -/
def SmrQ (l : List Rl) (most : Nat) (w : World) (e : Ending) (w' : World) : Prop := ∃ b : Bool, e = .returned (.bool b) ∧ (b = true → l.length ≤ most ∧ ∀ r ∈ l, GR r) ∧ Below w.heap.size w w'
set_option maxRecDepth 100000 in
set_option maxHeartbeats 3200000 in
theorem rules_any (N : Nat) (h4 : 4 ≤ N) (hN : (N + 3) * 4000000 ≤ 4611686018427387904) (l : List Rl) (most : Nat) (hm : most ≤ 1000) (w : World) (lv : Value) (hl : RIn (· < w.heap.size) w l lv) (hk : ∀ r ∈ l, sizeT r.1 ≤ 20 → klen r.1 ≤ N) :
    Calls Tryz.prog 44 #[lv, .int .i64 most] w (SmrQ l most w) := by
  obtain ⟨lp, lc, rfl⟩ := hl.form
  have RL := Lib.hid (fun w' (k : Below w.heap.size w w') => hl.keep (w' := w') fun b o hb => k.cell (p := ⟨b, o, none⟩) hb)
  have CL := Lib.hid (fun (hll : l.length ≤ 1000) (hr : ∀ r ∈ l, GR r) w' (k : Below w.heap.size w w') => LihD.light_any N h4 hN l [] w' (.slice lp l.length lc) (.slice none 0 0) ((RL.out w' k).wide fun b hb => Nat.lt_of_lt_of_le hb k.size) (SlIn.none _ _) hll (Nat.zero_le _) (fun r hr' => ⟨gn_klen r.1 (hk r hr' (hr r hr').1) (hr r hr').1, (hr r hr').1, (hr r hr').2.1, (hr r hr').2.2⟩) (fun t ht => by cases ht))
  have GG : Hid ((∀ j r, j < l.length → l[j]? = some r → GR r) → ∀ r ∈ l, GR r) := Lib.hid (fun h r hr => by
    obtain ⟨j, hj⟩ := List.mem_iff_getElem?.1 hr
    exact h j r (List.getElem?_eq_some_iff.1 hj).1 hj)
  unfold SmrQ
  generalize hnl : l.length = nl at *
  have HNL := Lib.hid hnl
  clear hl hnl hk h4 hN
  go_enter Tryz.func44, Tryz.ntmps44
  by_cases hmo : most < nl
  · have hmi : ((most : Nat) : Int) < (nl : Int) := by omega
    go_wp2_with fail
    refine bodyPost_ret (v := .bool false) (by simp [results, Tryz.results44, go_sem]) rfl ?_
    exact ⟨false, rfl, (fun h => by cases h), Below.refl _ _⟩
  · have hmi : ¬ ((most : Nat) : Int) < (nl : Int) := by omega
    go_wp2_with fail
    go_loopw [13] (fun i wr => ∃ k : Nat, k ≤ nl ∧ i = .int .i64 k ∧ Hid (∀ j r, j < k → l[j]? = some r → GR r) ∧ Hid (Below w.heap.size w wr)) (fun i _ => nl - (intOf i).toNat)
    case atStart => exact ⟨0, Nat.zero_le _, rfl, Lib.hid (fun j r hj => absurd hj (by omega)), Lib.hid (Below.refl _ _)⟩
    case round =>
      obtain ⟨k, hk, rfl, hG, hD⟩ := hrel
      by_cases hlt : k < nl
      · obtain ⟨x, g, o, q, d, q2, d2, hx, rfl, hg, e1, e2, e3, hxs, hxn, hxl⟩ := rin_row (RL.out wr hD.out) k (by rw [HNL.out]; exact hlt)
        have hsz := hD.out.size
        have CS := Lib.hid (Sm20.small_any x.1 w.heap.size wr (.slice q x.1.args.length d) hsz hxs)
        have LX := Lib.hid (fun w' (kb : Below wr.heap.size wr w') => hxl.keep (w' := w') fun b o hb => kb.cell (p := ⟨b, o, none⟩) (Nat.lt_of_lt_of_le hb hsz))
        have HX := Lib.hid hx
        have S20 : Hid (partsT 20 20 x.1 ≤ 20 → sizeT x.1 ≤ 20) := Lib.hid size_20
        have NXT : Hid (GR x → ∀ j r, j < k + 1 → l[j]? = some r → GR r) := Lib.hid (fun h j r hj hr => by
          by_cases hjk : j < k
          · exact hG.out j r hjk hr
          · obtain rfl : j = k := by omega
            rw [hx] at hr
            cases hr
            exact h)
        obtain ⟨b1, hb1⟩ : ∃ b, decide (partsT 20 20 x.1 ≤ 20) = b := ⟨_, rfl⟩
        rw [hb1] at CS
        have HB1 := Lib.hid hb1
        have F1 := Lib.hid (fun w' (kb : Below wr.heap.size wr w') => (kb.cell (p := ⟨g, o + k * 3 + 1 + 1, none⟩) (show g < wr.heap.size by omega)).trans e3)
        clear hx hxs hxn hxl hb1
        generalize x.1.nm = xn at *
        generalize x.1.args.length = xa at *
        generalize hbl : x.2.length = bl at *
        have HBL := Lib.hid hbl
        clear hbl
        go_wp2_with fail
        refine CS.out.mono ?_
        rintro e w3 ⟨rfl, g3⟩
        have K3 := Lib.hid g3.1
        have D3 := Lib.hid (next0 hD.out g3.1)
        have f1 := (K3.out.cell (p := ⟨g, o + k * 3 + 1 + 1, none⟩) (show g < wr.heap.size by omega)).trans e3
        clear g3 CS e1 e2 e3
        cases b1
        · go_wp2_with fail
          refine bodyPost_ret (v := .bool false) (by simp [results, Tryz.results44, go_sem]) rfl ?_
          exact ⟨false, rfl, (fun h => by cases h), D3.out⟩
        · have P1 : Hid (sizeT x.1 ≤ 20) := Lib.hid (S20.out (by have := HB1.out; rw [decide_eq_true_eq] at this; exact this))
          clear HB1 S20
          by_cases h8 : 8 < bl
          · have h8i : (8 : Int) < (bl : Int) := by omega
            go_wp2_with fail
            refine bodyPost_ret (v := .bool false) (by simp [results, Tryz.results44, go_sem]) rfl ?_
            exact ⟨false, rfl, (fun h => by cases h), D3.out⟩
          · have h8i : ¬ (8 : Int) < (bl : Int) := by omega
            have U8 : Hid (bl ≤ 8) := Lib.hid (by omega)
            go_wp2_with fail
            clear h8i h8
            go_loopw [38] (fun i wt => ∃ m : Nat, m ≤ bl ∧ i = .int .i64 m ∧ Hid (∀ j y, j < m → x.2[j]? = some y → sizeT y.2 ≤ 20) ∧ Hid (Below wr.heap.size wr wt)) (fun i _ => bl - (intOf i).toNat)
            case atStart => exact ⟨0, Nat.zero_le _, rfl, Lib.hid (fun j r hj => absurd hj (by omega)), K3⟩
            case round =>
              clear f1
              obtain ⟨m, hm9, rfl, hY, hT⟩ := hrel
              by_cases hmlt : m < bl
              · obtain ⟨y, g5, o5, q5, d5, hy, rfl, hg5, v1, v2, v3, hys, hyn⟩ := lin_row (LX.out wr hT.out) m (by rw [HBL.out]; exact hmlt)
                have f1 := F1.out wr hT.out
                have hwt : w.heap.size ≤ wr.heap.size := Nat.le_trans hsz hT.out.size
                have CY := Lib.hid (Sm20.small_any y.2 w.heap.size wr (.slice q5 y.2.args.length d5) hwt hys)
                obtain ⟨b5, hb5⟩ : ∃ b, decide (partsT 20 20 y.2 ≤ 20) = b := ⟨_, rfl⟩
                rw [hb5] at CY
                have NY : Hid (b5 = true → ∀ j z, j < m + 1 → x.2[j]? = some z → sizeT z.2 ≤ 20) := Lib.hid (fun h j z hj hz => by
                  by_cases hjm : j < m
                  · exact hY.out j z hjm hz
                  · obtain rfl : j = m := by omega
                    rw [hy] at hz
                    cases hz
                    rw [h, decide_eq_true_eq] at hb5
                    exact size_20 hb5)
                clear hy hys hyn hb5 v1
                generalize y.2.nm = yn at *
                generalize y.2.args.length = ya at *
                go_wp2_with fail
                refine CY.out.mono ?_
                rintro e w6 ⟨rfl, g6⟩
                have T6 := Lib.hid (next0 hT.out g6.1)
                have D6 := Lib.hid (next0 hD.out T6.out)
                clear g6 CY
                cases b5
                · go_wp2_with fail
                  refine bodyPost_ret (v := .bool false) (by simp [results, Tryz.results44, go_sem]) rfl ?_
                  exact ⟨false, rfl, (fun h => by cases h), D6.out⟩
                · have NZ := Lib.hid (NY.out rfl)
                  go_wp2_with fail
                  go_roundw
                  case rel => exact ⟨m + 1, by omega, by go_num, NZ, T6⟩
                  case measure => simp [intOf]; omega
              · obtain rfl : m = bl := by omega
                have GX : Hid (GR x) := Lib.hid ⟨P1.out, by rw [HBL.out]; exact U8.out, fun y hy => by
                  obtain ⟨j, hj⟩ := List.mem_iff_getElem?.1 hy
                  exact hY.out j y (by rw [← HBL.out]; exact (List.getElem?_eq_some_iff.1 hj).1) hj⟩
                have NX := Lib.hid (NXT.out GX.out)
                have D6 := Lib.hid (next0 hD.out hT.out)
                go_wp2_with fail
                go_roundw
                case rel => exact ⟨k + 1, by omega, by go_num, NX, D6⟩
                case measure => simp [intOf]; omega
      · obtain rfl : k = nl := by omega
        have CR := Lib.hid (CL.out (by omega) (GG.out (by exact hG.out)) wr hD.out)
        go_wp2_with fail
        refine CR.out.mono ?_
        rintro e w5 ⟨⟨b, rfl⟩, k5⟩
        have D5 := Lib.hid (next0 hD.out k5)
        have GF := Lib.hid (GG.out hG.out)
        go_wp2_with fail
        refine bodyPost_ret (v := .bool b) (by simp [results, Tryz.results44, go_sem]) rfl ?_
        exact ⟨b, rfl, fun _ => ⟨by omega, GF.out⟩, D5.out⟩
end SmrA
end Go.Proofs.YtjfgnmmcdgpiiaaGreatDoor
/- small of the law: one rule is asked for. Conditions: as SmallRules. -/
namespace Go.Proofs.YtjfgnmmcdgpiiaaGreatDoor
open Go Go.RowKit
namespace UnqE
open LexM TermM TermI Kit TermN TermU UniK UniM LigM LigY LigZ SmrA
/-- What small leaves. -/
def SmlQ (r : Rl) (w : World) (e : Ending) (w' : World) : Prop := ∃ b : Bool, e = .returned (.bool b) ∧ (b = true → GR r) ∧ Below w.heap.size w w'
theorem rin_one {ok : Nat → Prop} {w : World} {g : Nat} (r : Rl) (hv lv : Value) (hH : Has w g #[.string r.1.nm, hv, lv]) (hs : SlIn ok w r.1.args hv) (hl : LIn ok w r.2 lv) (hn : r.1.nm.size ≤ maxLen) (hg : ok g) : RIn ok w [r] (.slice (some ⟨g, 0, none⟩) 1 1) := by
  refine ⟨[(r, hv, lv)], rfl, some ⟨g, 0, none⟩, 1, rfl, Nat.le_refl _, by unfold maxLen; omega, fun x hx => ?_, fun _ => ⟨g, 0, rfl, hg, fun i x hx j u hu => ?_⟩⟩
  · obtain rfl := List.mem_singleton.1 hx
    exact ⟨hs, hn, hl⟩
  · match i, hx with
    | 0, hx =>
      simp at hx
      subst hx
      rw [show 0 + 0 * 3 + j = j by omega, hH.cell]
      match j, hu with
      | 0, hu => exact hu
      | 1, hu => exact hu
      | 2, hu => exact hu
      | j + 3, hu => simp [KR] at hu
    | i + 1, hx => simp at hx
set_option maxRecDepth 100000 in
set_option maxHeartbeats 1600000 in
theorem small_any (N : Nat) (h4 : 4 ≤ N) (hN : (N + 3) * 4000000 ≤ 4611686018427387904) (r : Rl) (w : World) (hv lv : Value) (hs : SlIn (· < w.heap.size) w r.1.args hv) (hl : LIn (· < w.heap.size) w r.2 lv) (hn : r.1.nm.size ≤ maxLen) (hk : sizeT r.1 ≤ 20 → klen r.1 ≤ N) :
    Calls Tryz.prog 19 #[.agg #[.string r.1.nm, hv, lv]] w (SmlQ r w) := by
  obtain ⟨p, c, rfl⟩ := hs.form
  obtain ⟨lp, lc, rfl⟩ := hl.form
  obtain ⟨W2, hW2⟩ : ∃ W2, W2 = (w.alloc (.cells #[.string r.1.nm, .slice p r.1.args.length c, .slice lp r.2.length lc] 34)).alloc (.cells #[.string r.1.nm, .slice p r.1.args.length c, .slice lp r.2.length lc] 34) := ⟨_, rfl⟩
  have B2 : Hid (Below w.heap.size w W2) := Lib.hid (by rw [hW2]; exact next0 (below_alloc _ _) (below_alloc _ _))
  have H2 : Has W2 (w.heap.size + 1) #[.string r.1.nm, .slice p r.1.args.length c, .slice lp r.2.length lc] := by rw [hW2]; exact Has.new1 w _ _ _
  have hs2 : w.heap.size + 2 ≤ W2.heap.size := by rw [hW2]; simp
  have CS := Lib.hid (rules_any N h4 hN [r] 1 (by omega) W2 _ (rin_one (ok := (· < W2.heap.size)) r _ _ H2 ((hs.deep B2.out (Nat.le_refl _)).weaken fun b hb => by omega) ((hl.keep fun b o hb => B2.out.cell (p := ⟨b, o, none⟩) hb).wide fun b hb => by omega) hn (by omega)) (fun x hx hz => by obtain rfl := List.mem_singleton.1 hx; exact hk hz))
  have HW1 : Hid (Has (w.alloc (.cells #[.string r.1.nm, .slice p r.1.args.length c, .slice lp r.2.length lc] 34)) w.heap.size #[.string r.1.nm, .slice p r.1.args.length c, .slice lp r.2.length lc]) := Lib.hid (Has.new _ _ _)
  clear hs hl H2
  unfold SmrQ at CS
  generalize r.1.nm = rn at *
  generalize r.1.args.length = ra at *
  generalize r.2.length = rb at *
  go_enter Tryz.func19, Tryz.ntmps19
  go_upto_region 1 with fail
  obtain ⟨f1, f2, f3, f4, f5, f6, f7⟩ := UnpP.has3 HW1.out
  go_wp2_with fail
  rw [← hW2]
  refine CS.out.mono ?_
  rintro e w3 ⟨b, rfl, hb, k3⟩
  have D3 := Lib.hid (next0 B2.out k3)
  have HB := Lib.hid (fun h => (hb h).2 r (by simp))
  clear hb k3
  go_wp2_with fail
  refine bodyPost_ret (v := .bool b) (by simp [results, Tryz.results19, go_sem]) rfl ?_
  exact ⟨b, rfl, HB.out, D3.out⟩
end UnqE
end Go.Proofs.YtjfgnmmcdgpiiaaGreatDoor
/- The walk of UnifyApplies, awake's contract as a premise. Conditions: the head's key is short where it is small. -/
namespace Go.Proofs.YtjfgnmmcdgpiiaaGreatDoor
open Go Go.RowKit
namespace UnqF
open LexM TermM TermI Kit TermN TermU UniK UniM UniA UniB UniC UniD UniE UniF UniG UniH UniP UniT UniV UniW LigM SmrA UnqA UnqB
set_option maxRecDepth 100000 in
set_option maxHeartbeats 6400000 in
theorem applies (N : Nat) (h4 : 4 ≤ N) (hN : (N + 3) * 4000000 ≤ 4611686018427387904) (s : List Bd) (r : Rl) (w : World) (sv hv lv : Value) (hs : SIn (· < w.heap.size) w s sv) (hh : SlIn (· < w.heap.size) w r.1.args hv) (hl : LIn (· < w.heap.size) w r.2 lv) (hn : r.1.nm.size ≤ maxLen) (hk : sizeT r.1 ≤ 20 → klen r.1 ≤ N) (AW : Aw w) :
    Calls Tryz.prog 4 #[sv, .agg #[.string r.1.nm, hv, lv]] w fun e w' => e = .returned (.bool true) ∧ Below w.heap.size w w' := by
  obtain ⟨p1, c1, rfl⟩ := hh.form
  obtain ⟨lp, lc, rfl⟩ := hl.form
  obtain ⟨ps, cs, hsv⟩ := hs.form
  obtain ⟨W1, hW1⟩ : ∃ W1, W1 = w.alloc (.cells #[.string r.1.nm, .slice p1 r.1.args.length c1, .slice lp r.2.length lc] 34) := ⟨_, rfl⟩
  have B1 : Hid (Below w.heap.size w W1) := Lib.hid (by rw [hW1]; exact below_alloc _ _)
  have H1 : Hid (Has W1 w.heap.size #[.string r.1.nm, .slice p1 r.1.args.length c1, .slice lp r.2.length lc]) := Lib.hid (by rw [hW1]; exact Has.new _ _ _)
  have SS := Lib.hid (fun w' (k : Below w.heap.size w w') => (hs.deep k (Nat.le_refl _)).wide (ok' := (· < w'.heap.size)) fun b hb => Nat.lt_of_lt_of_le hb k.size)
  have HS := Lib.hid (fun w' (k : Below w.heap.size w w') => (hh.deep k (Nat.le_refl _)).weaken (ok' := (· < w'.heap.size)) fun b hb => Nat.lt_of_lt_of_le hb k.size)
  have LS := Lib.hid (fun w' (k : Below w.heap.size w w') => (hl.keep (w' := w') fun b o hb => k.cell (p := ⟨b, o, none⟩) hb).wide (ok' := (· < w'.heap.size)) fun b hb => Nat.lt_of_lt_of_le hb k.size)
  have CF := Lib.hid (fun w' (k : Below w.heap.size w w') => few_any s w.heap.size w' _ k.size (hs.deep k (Nat.le_refl _)))
  have CSm := Lib.hid (fun w' (k : Below w.heap.size w w') => UnqE.small_any N h4 hN r w' _ _ (HS.out w' k) (LS.out w' k) hn hk)
  have CV := Lib.hid (fun w' (k : Below w.heap.size w w') => rvalid_any s w.heap.size w' _ k.size (hs.deep k (Nat.le_refl _)))
  have HNM := Lib.hid hn
  have AW' := Lib.hid AW
  obtain ⟨vs, hvs⟩ : ∃ z, vldS s = z := ⟨_, rfl⟩
  rw [hvs] at CV
  have HVS := Lib.hid hvs
  subst hsv
  clear hs hh hl hn hk AW h4 hN hvs
  unfold FewS at CF
  unfold UnqE.SmlQ at CSm
  unfold Aw at AW'
  have HX := Lib.hid (fun w' (k : Below W1.heap.size W1 w') => H1.out.step0 k)
  generalize hnm : r.1.nm = rn at *
  have HRN := Lib.hid hnm
  generalize hal : r.1.args.length = ra at *
  have HRA := Lib.hid hal
  generalize hbl : r.2.length = rb at *
  have HRB := Lib.hid hbl
  generalize hsl : s.length = sl at *
  have HSL := Lib.hid hsl
  clear hnm hal hbl hsl H1
  go_enter Tryz.func4, Tryz.ntmps4
  go_upto_region 1 with fail
  rw [← hW1]
  clear hW1
  go_wp2_with fail
  refine (CF.out _ B1.out).mono ?_
  rintro e w3 ⟨bf, rfl, hsm, g3⟩
  have D3 := Lib.hid (next0 B1.out g3.1)
  have K3 := Lib.hid g3.1
  have SM := Lib.hid hsm
  clear g3 hsm CF
  cases bf
  · clear CSm CV
    go_wp2_with fail
    refine (AW'.out _ D3.out).mono ?_
    rintro e w4 ⟨rfl, k4⟩
    have D4 := Lib.hid (next0 D3.out k4)
    go_wp2_with fail
    go_ret
    exact ⟨rfl, D4.out⟩
  have SMs := Lib.hid (SM.out rfl)
  obtain ⟨y1, y2, y3, y4, y5, y6, y7⟩ := UnpP.has3 (HX.out w3 K3.out)
  go_wp2_with fail
  refine (CSm.out _ D3.out).mono ?_
  rintro e w4 ⟨b1, rfl, hgr, k4⟩
  have D4 := Lib.hid (next0 D3.out k4)
  have K4 := Lib.hid (next0 K3.out k4)
  have GRr := Lib.hid hgr
  clear k4 hgr CSm y1 y2 y3 y4 y5 y6 y7
  cases b1
  · clear CV
    go_wp2_with fail
    refine (AW'.out _ D4.out).mono ?_
    rintro e w5 ⟨rfl, k5⟩
    have D5 := Lib.hid (next0 D4.out k5)
    go_wp2_with fail
    go_ret
    exact ⟨rfl, D5.out⟩
  have GX := Lib.hid (GRr.out rfl)
  go_wp2_with fail
  refine (CV.out _ D4.out).mono ?_
  rintro e w5 ⟨rfl, g5⟩
  have D5 := Lib.hid (next0 D4.out g5.1)
  have K5 := Lib.hid (next0 K4.out g5.1)
  clear g5 CV
  cases vs
  · go_wp2_with fail
    refine (AW'.out _ D5.out).mono ?_
    rintro e w6 ⟨rfl, k6⟩
    have D6 := Lib.hid (next0 D5.out k6)
    go_wp2_with fail
    go_ret
    exact ⟨rfl, D6.out⟩
  have hV := vld_all HVS.out
  have hsrt := vld_srt HVS.out
  have hz : sizeT r.1 ≤ 1000000 := by have := GX.out.1; omega
  have hzl : ∀ x ∈ r.2, sizeT x.2 ≤ 1000000 := fun x hx => by have := GX.out.2.2 x hx; omega
  have hll : r.2.length ≤ 1000 := by have := GX.out.2.1; omega
  have hSz : Sz s := ⟨by have := SMs.out.1; omega, fun y hy => by have := size_of (SMs.out.2 y hy); omega⟩
  have hV1 : ∀ b ∈ s, varB b.1 = true := fun b hb => (hV b hb).1
  have HB5 : Hid (∀ w', Below w5.heap.size w5 w' → (w'.cell? ⟨w.heap.size, 0, none⟩ = some (.string rn) ∧ w'.cell? ⟨w.heap.size, 1, none⟩ = some (.slice p1 ra c1) ∧ w'.cell? ⟨w.heap.size, 2, none⟩ = some (.slice lp rb lc) ∧ Hid (Below w5.heap.size w5 w'))) := Lib.hid (fun w' k => by have a := HX.out w' (next0 K5.out k); exact ⟨a.cell 0, a.cell 1, a.cell 2, Lib.hid k⟩)
  have DW := Lib.hid (fun w' (k : Below w5.heap.size w5 w') => next0 D5.out k)
  have hnr : r.1.nm.size ≤ maxLen := by rw [HRN.out]; exact HNM.out
  have e1 : sl = s.length := HSL.out.symm
  have e2 : rn = r.1.nm := HRN.out.symm
  have e3 : ra = r.1.args.length := HRA.out.symm
  have e4 : rb = r.2.length := HRB.out.symm
  have C3 := Lib.hid (fun w' (k : Below w5.heap.size w5 w') => show Calls Tryz.prog 20 #[.slice ps sl cs, .agg #[.string rn, .slice p1 ra c1]] w' (RepR (appT s r.1) w') from by have a := apply_any s hsrt.1 hSz r.1 w'.heap.size w' _ _ (Nat.le_refl _) (SS.out w' (DW.out w' k)) (HS.out w' (DW.out w' k)) hnr hz; rw [HRN.out] at a; exact a)
  have C7 := Lib.hid (fun w' (k : Below w5.heap.size w5 w') => show Calls Tryz.prog 21 #[.slice ps sl cs, .agg #[.string rn, .slice p1 ra c1]] w' (RApR w'.heap.size (appT s r.1) w') from by have a := rapply_any s hV1 r.1 w'.heap.size w' _ _ (Nat.le_refl _) (SS.out w' (DW.out w' k)) (HS.out w' (DW.out w' k)) hnr hz; rw [HRN.out] at a; exact a)
  have C12 := Lib.hid (fun w' (k : Below w5.heap.size w5 w') => show Calls Tryz.prog 23 #[.slice ps sl cs, .agg #[.string rn, .slice p1 ra c1, .slice lp rb lc]] w' (RuX (fun _ => False) (appT s r.1) (atomsL (appT s) r.2) w') from by have a := UnqD.arule_any s hsrt.1 hSz r.1 r.2 w' _ _ _ (SS.out w' (DW.out w' k)) (HS.out w' (DW.out w' k)) (LS.out w' (DW.out w' k)) hnr hll hz hzl; rw [HRN.out] at a; exact a)
  have C15 := Lib.hid (fun w' (k : Below w5.heap.size w5 w') => show Calls Tryz.prog 24 #[.slice ps sl cs, .agg #[.string rn, .slice p1 ra c1, .slice lp rb lc]] w' (RuX (· < w'.heap.size) (appT s r.1) (atomsL (appT s) r.2) w') from by have a := UnqC.rar_any s hV1 r.1 r.2 w' _ _ _ (SS.out w' (DW.out w' k)) (HS.out w' (DW.out w' k)) (LS.out w' (DW.out w' k)) hnr hll hz hzl; rw [HRN.out] at a; exact a)
  clear e1 e2 e3 e4 hnr hz hzl hll hSz hsrt hV hV1 SS HS LS
  unfold RepR at C3
  unfold RApR at C7
  unfold RuX at C12 C15
  generalize appT s r.1 = u at *
  generalize atomsL (appT s) r.2 = m at *
  have C8 := Lib.hid (fun (q q' : Value) (w' : World) (h : SlIn (· < w'.heap.size) w' u.args q) (h' : SlIn (· < w'.heap.size) w' u.args q') => TermEq.term_any u true w'.heap.size w' q u q' (by simp) (Nat.le_refl _) h h')
  have C16 := Lib.hid (fun (q q' v v' : Value) (w' : World) (h : SlIn (· < w'.heap.size) w' u.args q) (h' : SlIn (· < w'.heap.size) w' u.args q') (g : LIn (· < w'.heap.size) w' m v) (g' : LIn (· < w'.heap.size) w' m v') => UnpP.rule_eq u u m m true (by simp) w'.heap.size w' q q' v v' (Nat.le_refl _) h h' g g')
  generalize u.nm = un at *
  generalize u.args.length = ul at *
  have Hb := HB5
  have K0 : Hid (Below w5.heap.size w5 w5.drew) := Lib.hid (Below.refl _ _).drew
  go_upto_region 3 with fail
  refine wp_region_held_drew (S := (fun w' => w'.cell? ⟨w.heap.size, 0, none⟩ = some (.string rn) ∧ w'.cell? ⟨w.heap.size, 1, none⟩ = some (.slice p1 ra c1) ∧ w'.cell? ⟨w.heap.size, 2, none⟩ = some (.slice lp rb lc) ∧ Hid (Below w5.heap.size w5 w'))) (by kernel_rfl) (Hb.out _ K0.out) (fun hHeld => ?_)
  generalize hw0 : w5.drew = wz at hHeld K0 ⊢
  clear hw0
  refine wpAnyH_take (i := 0) (v := ?_) rfl (by kernel_rfl) (by kernel_rfl) (by kernel_rfl) (fun _ _ _ h => h) (Or.inl ⟨by rfl, ?_⟩) (by assumption) ?_
  rotate_left
  · intro w' hSw; (try dsimp only at hSw); (try simp only [List.getElem_toArray, List.getElem_cons_zero]); go_simp; try with_reducible rfl
  (try simp only [List.getElem_toArray, List.getElem_cons_zero, Act.put, List.setIfInBounds_toArray, List.set_cons_zero, List.set_cons_succ])
  refine wpAnyH_take (i := 1) (v := ?_) rfl (by kernel_rfl) (by kernel_rfl) (by kernel_rfl) (fun _ _ _ h => h) (Or.inl ⟨by rfl, ?_⟩) (by assumption) ?_
  rotate_left
  · intro w' hSw; (try dsimp only at hSw); (try simp only [List.getElem_toArray, List.getElem_cons_zero, List.getElem_cons_succ]); go_simp; try with_reducible rfl
  (try simp only [List.getElem_toArray, List.getElem_cons_zero, List.getElem_cons_succ, Act.put, List.setIfInBounds_toArray, List.set_cons_zero, List.set_cons_succ])
  refine wpAnyH_take (i := 2) (v := ?_) rfl (by kernel_rfl) (by kernel_rfl) (by kernel_rfl) (fun _ _ _ h => h) (Or.inl ⟨by rfl, ?_⟩) (by assumption) ?_
  rotate_left
  · intro w' hSw; (try dsimp only at hSw); (try simp only [List.getElem_toArray, List.getElem_cons_zero, List.getElem_cons_succ]); go_simp; try with_reducible rfl
  (try simp only [List.getElem_toArray, List.getElem_cons_zero, List.getElem_cons_succ, Act.put, List.setIfInBounds_toArray, List.set_cons_zero, List.set_cons_succ])
  refine wpAnyH_take (i := 4) (v := ?_) rfl (by kernel_rfl) (by kernel_rfl) (by kernel_rfl) (fun _ _ _ h => h) (Or.inl ⟨by rfl, ?_⟩) (by assumption) ?_
  rotate_left
  · intro w' hSw; (try dsimp only at hSw); (try simp only [List.getElem_toArray, List.getElem_cons_zero, List.getElem_cons_succ]); go_simp; try with_reducible rfl
  (try simp only [List.getElem_toArray, List.getElem_cons_zero, List.getElem_cons_succ, Act.put, List.setIfInBounds_toArray, List.set_cons_zero, List.set_cons_succ])
  refine wpAnyH_take (i := 5) (v := ?_) rfl (by kernel_rfl) (by kernel_rfl) (by kernel_rfl) (fun _ _ _ h => h) (Or.inl ⟨by rfl, ?_⟩) (by assumption) ?_
  rotate_left
  · intro w' hSw; (try dsimp only at hSw); (try simp only [List.getElem_toArray, List.getElem_cons_zero, List.getElem_cons_succ]); go_simp; try with_reducible rfl
  (try simp only [List.getElem_toArray, List.getElem_cons_zero, List.getElem_cons_succ, Act.put, List.setIfInBounds_toArray, List.set_cons_zero, List.set_cons_succ])
  refine wpAnyH_take (i := 6) (v := ?_) rfl (by kernel_rfl) (by kernel_rfl) (by kernel_rfl) (fun _ _ _ h => h) (Or.inl ⟨by rfl, ?_⟩) (by assumption) ?_
  rotate_left
  · intro w' hSw; (try dsimp only at hSw); (try simp only [List.getElem_toArray, List.getElem_cons_zero, List.getElem_cons_succ]); go_simp; try with_reducible rfl
  (try simp only [List.getElem_toArray, List.getElem_cons_zero, List.getElem_cons_succ, Act.put, List.setIfInBounds_toArray, List.set_cons_zero, List.set_cons_succ])
  refine wpAnyH_ready (rs := [3]) (by kernel_rfl) (by simp) ?_
  refine AllReadyH.cons rfl (fun K' hK => ?_) AllReadyH.nil
  go_simp
  (try go_split_ands)
  go_at_call 20
  (with_reducible refine (C3.out _ K0.out).mono ?_)
  rintro e w6 ⟨q3, d3, rfl, s3, n3, k6⟩
  have K6 := Lib.hid (next0 K0.out k6)
  have S3 := Lib.hid (fun w' (k : Below w6.heap.size w6 w') => ((s3.weaken (ok' := (· < w6.heap.size)) fun b hb => by exact hb.2).deep k (Nat.le_refl _)).weaken (ok' := (· < w'.heap.size)) fun b hb => Nat.lt_of_lt_of_le hb k.size)
  clear s3 n3 k6
  refine hK.out _ _ (Hb.out _ K6.out) (fun hHeld => ?_)
  clear hK K'
  (try simp only [List.getElem_toArray, List.getElem_cons_zero, List.getElem_cons_succ, Act.put, List.setIfInBounds_toArray, List.set_cons_zero, List.set_cons_succ])
  refine wpAnyH_ready (rs := [7]) (by kernel_rfl) (by simp) ?_
  refine AllReadyH.cons rfl (fun K' hK => ?_) AllReadyH.nil
  go_simp
  (try go_split_ands)
  go_at_call 21
  (with_reducible refine (C7.out _ K6.out).mono ?_)
  rintro e w7 ⟨q7, d7, rfl, s7, n7, k7⟩
  have K7 := Lib.hid (next0 K6.out k7)
  have J7 := Lib.hid k7
  have S7 := Lib.hid (fun w' (k : Below w7.heap.size w7 w') => ((s7.weaken (ok' := (· < w7.heap.size)) fun b hb => by (have h1 := k7.size; rcases hb with hb | hb; omega; exact hb.2)).deep k (Nat.le_refl _)).weaken (ok' := (· < w'.heap.size)) fun b hb => Nat.lt_of_lt_of_le hb k.size)
  clear s7 n7 k7
  refine hK.out _ _ (Hb.out _ K7.out) (fun hHeld => ?_)
  clear hK K'
  (try simp only [List.getElem_toArray, List.getElem_cons_zero, List.getElem_cons_succ, Act.put, List.setIfInBounds_toArray, List.set_cons_zero, List.set_cons_succ])
  refine wpAnyH_ready (rs := [8]) (by kernel_rfl) (by simp) ?_
  refine AllReadyH.cons rfl (fun K' hK => ?_) AllReadyH.nil
  go_simp
  (try go_split_ands)
  go_at_call 18
  (with_reducible refine (C8.out _ _ _ (S3.out _ J7.out) (S7.out _ (Below.refl _ _))).mono ?_)
  rintro e w8 ⟨rfl, g8⟩
  have K8 := Lib.hid (next0 K7.out g8.1)
  clear g8
  refine hK.out _ _ (Hb.out _ K8.out) (fun hHeld => ?_)
  clear hK K'
  (try simp only [List.getElem_toArray, List.getElem_cons_zero, List.getElem_cons_succ, Act.put, List.setIfInBounds_toArray, List.set_cons_zero, List.set_cons_succ])
  refine wpAnyH_take (i := 9) (v := ?_) rfl (by kernel_rfl) (by kernel_rfl) (by kernel_rfl) (fun _ _ _ h => h) (Or.inl ⟨by rfl, ?_⟩) (by assumption) ?_
  rotate_left
  · intro w' hSw; (try dsimp only at hSw); (try simp only [List.getElem_toArray, List.getElem_cons_zero, List.getElem_cons_succ]); go_simp; try with_reducible rfl
  (try simp only [List.getElem_toArray, List.getElem_cons_zero, List.getElem_cons_succ, Act.put, List.setIfInBounds_toArray, List.set_cons_zero, List.set_cons_succ])
  refine wpAnyH_take (i := 10) (v := ?_) rfl (by kernel_rfl) (by kernel_rfl) (by kernel_rfl) (fun _ _ _ h => h) (Or.inl ⟨by rfl, ?_⟩) (by assumption) ?_
  rotate_left
  · intro w' hSw; (try dsimp only at hSw); (try simp only [List.getElem_toArray, List.getElem_cons_zero, List.getElem_cons_succ]); go_simp; try with_reducible rfl
  (try simp only [List.getElem_toArray, List.getElem_cons_zero, List.getElem_cons_succ, Act.put, List.setIfInBounds_toArray, List.set_cons_zero, List.set_cons_succ])
  refine wpAnyH_take (i := 11) (v := ?_) rfl (by kernel_rfl) (by kernel_rfl) (by kernel_rfl) (fun _ _ _ h => h) (Or.inl ⟨by rfl, ?_⟩) (by assumption) ?_
  rotate_left
  · intro w' hSw; (try dsimp only at hSw); (try simp only [List.getElem_toArray, List.getElem_cons_zero, List.getElem_cons_succ]); go_simp; try with_reducible rfl
  (try simp only [List.getElem_toArray, List.getElem_cons_zero, List.getElem_cons_succ, Act.put, List.setIfInBounds_toArray, List.set_cons_zero, List.set_cons_succ])
  refine wpAnyH_take (i := 13) (v := ?_) rfl (by kernel_rfl) (by kernel_rfl) (by kernel_rfl) (fun _ _ _ h => h) (Or.inl ⟨by rfl, ?_⟩) (by assumption) ?_
  rotate_left
  · intro w' hSw; (try dsimp only at hSw); (try simp only [List.getElem_toArray, List.getElem_cons_zero, List.getElem_cons_succ]); go_simp; try with_reducible rfl
  (try simp only [List.getElem_toArray, List.getElem_cons_zero, List.getElem_cons_succ, Act.put, List.setIfInBounds_toArray, List.set_cons_zero, List.set_cons_succ])
  refine wpAnyH_take (i := 14) (v := ?_) rfl (by kernel_rfl) (by kernel_rfl) (by kernel_rfl) (fun _ _ _ h => h) (Or.inl ⟨by rfl, ?_⟩) (by assumption) ?_
  rotate_left
  · intro w' hSw; (try dsimp only at hSw); (try simp only [List.getElem_toArray, List.getElem_cons_zero, List.getElem_cons_succ]); go_simp; try with_reducible rfl
  (try simp only [List.getElem_toArray, List.getElem_cons_zero, List.getElem_cons_succ, Act.put, List.setIfInBounds_toArray, List.set_cons_zero, List.set_cons_succ])
  refine wpAnyH_ready (rs := [12]) (by kernel_rfl) (by simp) ?_
  refine AllReadyH.cons rfl (fun K' hK => ?_) AllReadyH.nil
  go_simp
  (try go_split_ands)
  go_at_call 23
  (with_reducible refine (C12.out _ K8.out).mono ?_)
  rintro e w9 ⟨q9, d9, v9, rfl, s9, l9, n9, k9⟩
  have K9 := Lib.hid (next0 K8.out k9)
  have S9 := Lib.hid (fun w' (k : Below w9.heap.size w9 w') => ((s9.weaken (ok' := (· < w9.heap.size)) fun b hb => by (rcases hb with hb | hb; exact hb.elim; exact hb.2)).deep k (Nat.le_refl _)).weaken (ok' := (· < w'.heap.size)) fun b hb => Nat.lt_of_lt_of_le hb k.size)
  have L9 := Lib.hid (fun w' (k : Below w9.heap.size w9 w') => ((l9.wide (ok' := (· < w9.heap.size)) fun b hb => by (rcases hb with hb | hb; exact hb.elim; exact hb.2)).keep (w' := w') fun b o hb => k.cell (p := ⟨b, o, none⟩) hb).wide (ok' := (· < w'.heap.size)) fun b hb => Nat.lt_of_lt_of_le hb k.size)
  obtain ⟨m9, c9, rfl⟩ := l9.form
  clear s9 l9 n9 k9
  refine hK.out _ _ (Hb.out _ K9.out) (fun hHeld => ?_)
  clear hK K'
  (try simp only [List.getElem_toArray, List.getElem_cons_zero, List.getElem_cons_succ, Act.put, List.setIfInBounds_toArray, List.set_cons_zero, List.set_cons_succ])
  refine wpAnyH_ready (rs := [15]) (by kernel_rfl) (by simp) ?_
  refine AllReadyH.cons rfl (fun K' hK => ?_) AllReadyH.nil
  go_simp
  (try go_split_ands)
  go_at_call 24
  (with_reducible refine (C15.out _ K9.out).mono ?_)
  rintro e w10 ⟨q10, d10, v10, rfl, s10, l10, n10, k10⟩
  have K10 := Lib.hid (next0 K9.out k10)
  have J10 := Lib.hid k10
  have hz10 := k10.size
  have S10 := Lib.hid (fun w' (k : Below w10.heap.size w10 w') => ((s10.weaken (ok' := (· < w10.heap.size)) fun b hb => by (rcases hb with hb | hb; omega; exact hb.2)).deep k (Nat.le_refl _)).weaken (ok' := (· < w'.heap.size)) fun b hb => Nat.lt_of_lt_of_le hb k.size)
  have L10 := Lib.hid (l10.wide (ok' := (· < w10.heap.size)) fun b hb => by (rcases hb with hb | hb; omega; exact hb.2))
  obtain ⟨m10, c10, rfl⟩ := l10.form
  clear s10 l10 n10 k10 hz10
  refine hK.out _ _ (Hb.out _ K10.out) (fun hHeld => ?_)
  clear hK K'
  (try simp only [List.getElem_toArray, List.getElem_cons_zero, List.getElem_cons_succ, Act.put, List.setIfInBounds_toArray, List.set_cons_zero, List.set_cons_succ])
  refine wpAnyH_ready (rs := [16]) (by kernel_rfl) (by simp) ?_
  refine AllReadyH.cons rfl (fun K' hK => ?_) AllReadyH.nil
  go_simp
  (try go_split_ands)
  go_at_call 22
  (with_reducible refine (C16.out _ _ _ _ _ (S9.out _ J10.out) (S10.out _ (Below.refl _ _)) (L9.out _ J10.out) L10.out).mono ?_)
  rintro e w11 ⟨rfl, g11⟩
  have K11 := Lib.hid (next0 K10.out g11.1)
  clear g11
  refine hK.out _ _ (Hb.out _ K11.out) (fun hHeld => ?_)
  clear hK K'
  (try simp only [List.getElem_toArray, List.getElem_cons_zero, List.getElem_cons_succ, Act.put, List.setIfInBounds_toArray, List.set_cons_zero, List.set_cons_succ])
  refine wpAnyH_take (i := 17) (v := ?_) rfl (by kernel_rfl) (by kernel_rfl) (by kernel_rfl) (fun _ _ _ h => h) (Or.inl ⟨by rfl, ?_⟩) (by assumption) ?_
  rotate_left
  · intro w' hSw; (try dsimp only at hSw); (try simp only [List.getElem_toArray, List.getElem_cons_zero, List.getElem_cons_succ]); go_simp; try with_reducible rfl
  (try simp only [List.getElem_toArray, List.getElem_cons_zero, List.getElem_cons_succ, Act.put, List.setIfInBounds_toArray, List.set_cons_zero, List.set_cons_succ])
  refine wpAnyH_take (i := 18) (v := ?_) rfl (by kernel_rfl) (by kernel_rfl) (by kernel_rfl) (fun _ _ _ h => h) (Or.inl ⟨by rfl, ?_⟩) (by assumption) ?_
  rotate_left
  · intro w' hSw; (try dsimp only at hSw); (try simp only [List.getElem_toArray, List.getElem_cons_zero, List.getElem_cons_succ]); go_simp; try with_reducible rfl
  (try simp only [List.getElem_toArray, List.getElem_cons_zero, List.getElem_cons_succ, Act.put, List.setIfInBounds_toArray, List.set_cons_zero, List.set_cons_succ])
  refine wpAnyH_ready (rs := [19]) (by kernel_rfl) (by simp) ?_
  refine AllReadyH.cons rfl (fun K' hK => ?_) AllReadyH.nil
  go_simp
  (try go_split_ands)
  go_at_call 13
  (with_reducible refine (AW'.out _ (DW.out _ K11.out)).mono ?_)
  rintro e w12 ⟨rfl, k12⟩
  have K12 := Lib.hid (next0 K11.out k12)
  clear k12
  refine hK.out _ _ (Hb.out _ K12.out) (fun hHeld => ?_)
  clear hK K'
  (try simp only [List.getElem_toArray, List.getElem_cons_zero, List.getElem_cons_succ, Act.put, List.setIfInBounds_toArray, List.set_cons_zero, List.set_cons_succ])
  refine wpAnyH_take (i := 20) (v := ?_) rfl (by kernel_rfl) (by kernel_rfl) (by kernel_rfl) (fun _ _ _ h => h) (Or.inl ⟨by rfl, ?_⟩) (by assumption) ?_
  rotate_left
  · intro w' hSw; (try dsimp only at hSw); (try simp only [List.getElem_toArray, List.getElem_cons_zero, List.getElem_cons_succ]); go_simp; try with_reducible rfl
  (try simp only [List.getElem_toArray, List.getElem_cons_zero, List.getElem_cons_succ, Act.put, List.setIfInBounds_toArray, List.set_cons_zero, List.set_cons_succ])
  refine wpAnyH_take (i := 21) (v := ?_) rfl (by kernel_rfl) (by kernel_rfl) (by kernel_rfl) (fun _ _ _ h => h) (Or.inl ⟨by rfl, ?_⟩) (by assumption) ?_
  rotate_left
  · intro w' hSw; (try dsimp only at hSw); (try simp only [List.getElem_toArray, List.getElem_cons_zero, List.getElem_cons_succ]); go_simp; try with_reducible rfl
  (try simp only [List.getElem_toArray, List.getElem_cons_zero, List.getElem_cons_succ, Act.put, List.setIfInBounds_toArray, List.set_cons_zero, List.set_cons_succ])
  refine wpAnyH_done (by kernel_rfl) ?_ _
  have D12 := Lib.hid (DW.out _ K12.out)
  go_wp2_with fail
  go_ret
  exact ⟨rfl, D12.out⟩
end UnqF
end Go.Proofs.YtjfgnmmcdgpiiaaGreatDoor
/- Rules that come in are opened; what bounds the keys of their terms: the bulk of what they read as. No conditions. -/
namespace Go.Proofs.YtjfgnmmcdgpiiaaGreatDoor
open Go Go.RowKit Go.ChangeShapes Go.Deep
namespace UnqG
open LexM TermM TermI Kit UniK UniM LigM
theorem tail_bulk {H : Type} : ∀ (l : List Tm) (es : List (DataW H)), l.length = es.length → (∀ (i : Nat) t d, l[i]? = some t → es[i]? = some d → klen t + 1 ≤ Rows.uptoBulk d) → klenL l ≤ Rows.uptoBulkAll es
  | [], [], _, _ => by simp [klenL]
  | [], _ :: _, h, _ => by simp at h
  | _ :: _, [], h, _ => by simp at h
  | t :: l, d :: es, h, hall => by
    have h0 := hall 0 t d rfl rfl
    have h1 := tail_bulk l es (by simpa using h) (fun i t d ht hd => hall (i + 1) t d (by simpa using ht) (by simpa using hd))
    simp only [klenL, Rows.uptoBulkAll]
    omega
theorem text_bulk {H : Type} (s : ByteArray) (l : List Tm) (y : DataW H) (h : klenL l + 1 ≤ Rows.uptoBulk y) : klen (.mk s l) + 1 ≤ Rows.uptoBulk (DataW.agg [.lit (.string s.data.toList), y]) := by
  have h3 : s.data.toList.length = s.size := by simp
  simp only [klen, Rows.uptoBulk, Rows.uptoBulkAll, h3]
  omega
theorem all_app {H : Type} (a b : List (DataW H)) : Rows.uptoBulkAll a + 1 ≤ Rows.uptoBulk (.slice a b) := by
  simp only [Rows.uptoBulk]
  omega
theorem all_app0 {H : Type} (a b : List (DataW H)) : Rows.uptoBulkAll a ≤ Rows.uptoBulk (.slice a b) := by
  have := all_app a b
  omega
/-- A slice value that reads as a slice of terms, with its bulk. -/
theorem slice_in2 {H : Type} {enc : TypeId × Value → H} {W : World} {base : Nat} {sp : Nat → Bool} {held : Bool} : ∀ (n : Nat) (cs : List Value) (x : DataW H × List MemPlace),
    DataW.trod enc Tryz.prog W base sp held n 25 cs = some x → ∃ (l : List Tm) (v : Value), cs = [v] ∧ SlIn (· < W.heap.size) W l v ∧ klenL l + 1 ≤ Rows.uptoBulk x.1 := by
  intro n
  induction n using Nat.strongRecOn with
  | ind n ih =>
    intro cs x h
    rcases DataW.trod_slice Tryz.underlying25 h with ⟨rfl, rfl⟩ | ⟨a, len, cap, elems, rest, m, hn, rfl, rfl, _, hle, hm, hlen, hel, _⟩
    · exact ⟨[], _, rfl, SlIn.none _ _, by simp [klenL, Rows.uptoBulk]⟩
    · have each : ∀ i, i < len → ∃ tv : Tm × Value, W.cell? (a.add (i * 2)) = some (.string tv.1.nm) ∧ W.cell? (a.add (i * 2 + 1)) = some tv.2 ∧ tv.1.nm.size ≤ maxLen ∧ SlIn (· < W.heap.size) W tv.1.args tv.2 ∧ ∀ z, (elems.map (·.1))[i]? = some z → klen tv.1 + 1 ≤ Rows.uptoBulk z := by
        intro i hi
        have he := hel i hi
        rw [List.getElem?_eq_getElem (by omega)] at he
        obtain ⟨cs', h1, h2⟩ := Option.bind_eq_some_iff.1 he
        rw [cellsT] at h1
        obtain ⟨_, hl2, hcell⟩ := World.cells?_some h1
        obtain ⟨s, v, k, y, rfl, hk, hs, hv, hx1⟩ := struct_in h2
        obtain ⟨l, v', e, hin, hbk⟩ := ih k (by omega) _ _ hv
        injection e with e _
        subst e
        have e0 := hcell 0 (by omega)
        have e1 := hcell 1 (by omega)
        rw [add_add] at e0 e1
        refine ⟨(.mk s l, v), by simpa [Tm.nm] using e0, by simpa using e1, hs, hin, fun z hz => ?_⟩
        rw [List.getElem?_map, List.getElem?_eq_getElem (by omega)] at hz
        have hz' : (elems[i]'(by omega)).1 = z := by simpa using hz
        rw [← hz', hx1]
        exact text_bulk s l y.1 hbk
      obtain ⟨tvs, htl, hall⟩ := gather each
      obtain ⟨b, off, spot⟩ := a
      have hsp : tvs ≠ [] → spot = none ∧ b < W.heap.size := by
        intro hne
        obtain ⟨tv, hg⟩ : ∃ tv, tvs[0]? = some tv := by cases tvs with
          | nil => exact absurd rfl hne
          | cons a r => exact ⟨a, rfl⟩
        have h0 := (hall 0 tv hg).1
        have h2 : spot = none := by simpa [Addr.add] using World.cell?_spot h0
        subst h2
        exact ⟨rfl, by simpa [Addr.add] using block_lt_of_cell h0⟩
      have hml : (tvs.map (·.1)).length = len := by simp [htl]
      have key : ∀ (i : Nat) (t : Tm), (tvs.map (·.1))[i]? = some t → ∃ tv : Tm × Value, tvs[i]? = some tv ∧ tv.1 = t := by
        intro i t ht
        rw [List.getElem?_map] at ht
        obtain ⟨tv, h1, h2⟩ := Option.map_eq_some_iff.1 ht
        exact ⟨tv, h1, h2⟩
      refine ⟨tvs.map (·.1), .slice (some ⟨b, off, spot⟩) len cap, rfl, ?_, ?_⟩
      · rw [← hml]
        refine .mk _ cap _ (fun i => (tvs.getD i (default, undef)).2) b off (fun hne => ?_) (fun h => by cases h) (by omega) hm (fun i t ht => ?_) (fun i t ht => ?_)
        · obtain ⟨rfl, h2⟩ := hsp (by intro e; subst e; exact hne rfl)
          exact ⟨rfl, h2⟩
        · obtain ⟨tv, hg, rfl⟩ := key i t ht
          obtain ⟨h1, h2, h3, _⟩ := hall i tv hg
          obtain ⟨rfl, _⟩ := hsp (by intro e; subst e; simp at hg)
          rw [addr_add] at h1 h2
          exact ⟨h1, by simpa [List.getD, hg, Nat.add_assoc] using h2, h3⟩
        · obtain ⟨tv, hg, rfl⟩ := key i t ht
          have := (hall i tv hg).2.2.2.1
          simpa [List.getD, hg] using this
      · refine Nat.le_trans (Nat.succ_le_succ (tail_bulk (tvs.map (·.1)) (elems.map (·.1)) (by simp [htl, hlen]) (fun i t d ht hd => ?_))) (all_app _ _)
        obtain ⟨tv, hg, rfl⟩ := key i t ht
        exact (hall i tv hg).2.2.2.2 d hd
theorem cellsB : Tryz.prog.cellsOf 4 = 1 := by kernel_rfl
theorem cellsLit : Tryz.prog.cellsOf 67 = 3 := by kernel_rfl
theorem cellsLits : Tryz.prog.cellsOf 32 = 1 := by kernel_rfl
theorem cellsRule : Tryz.prog.cellsOf 34 = 3 := by kernel_rfl
theorem underLit : ∃ f0 f1 : Field, Tryz.prog.underlying 67 = some (.struct #[f0, f1]) ∧ f0.offset = 0 ∧ f1.offset = 1 ∧ f0.type = 4 ∧ f1.type = 27 := ⟨_, _, Tryz.underlying67, rfl, rfl, rfl, rfl⟩
theorem underRule : ∃ f0 f1 : Field, Tryz.prog.underlying 34 = some (.struct #[f0, f1]) ∧ f0.offset = 0 ∧ f1.offset = 2 ∧ f0.type = 27 ∧ f1.type = 32 := ⟨_, _, Tryz.underlying34, rfl, rfl, rfl, rfl⟩
theorem three_of (l : List Value) (h : l.length = 3) : ∃ a b c, l = [a, b, c] := by
  match l, h with
  | [a, b, c], _ => exact ⟨a, b, c, rfl⟩
/-- Three cells that read as a literal. -/
theorem lit_in {H : Type} {enc : TypeId × Value → H} {W : World} {base : Nat} {sp : Nat → Bool} {held : Bool} {n : Nat} {cs : List Value} {x : DataW H × List MemPlace}
    (h : DataW.trod enc Tryz.prog W base sp held n 67 cs = some x) :
    ∃ (y : Lt) (v : Value), cs = KL.cells (y, v) ∧ KL.inn (· < W.heap.size) W (y, v) ∧ klen y.2 + 3 ≤ Rows.uptoBulk x.1 := by
  obtain ⟨f0, f1, hu, o0, o1, y0, y1⟩ := underLit
  obtain ⟨xs, k, hk, hxy, hcl, hxl, hf⟩ := DataW.trod_struct hu h
  rw [cellsLit] at hcl
  obtain ⟨v0, v1, v2, rfl⟩ := three_of cs hcl
  match xs, hxl with
  | [x0, x1], _ =>
    have g0 := hf 0 f0 rfl
    have g1 := hf 1 f1 rfl
    simp [o0, o1, y0, y1, cellsB, cellsT] at g0 g1
    obtain ⟨b, q1, q2⟩ := DataW.trod_bool Tryz.underlying4 g0
    simp at q1
    subst q1
    obtain ⟨s, v, k2, y, e, _, hs, hv, hx1⟩ := struct_in g1
    injection e with e1 e2
    injection e2 with e2 _
    subst e1 e2
    obtain ⟨l, v', e', hin, hbk⟩ := slice_in2 _ _ _ hv
    injection e' with e' _
    subst e'
    refine ⟨(b, .mk s l), _, rfl, ⟨hin, hs⟩, ?_⟩
    rw [hxy]
    have := text_bulk s l y.1 hbk
    have e5 : x1.1 = _ := hx1
    simp only [List.map_cons, List.map_nil, Rows.uptoBulk, Rows.uptoBulkAll, q2]
    rw [e5]
    omega
/-- A slice value that reads as a slice of literals. -/
theorem lits_in {H : Type} {enc : TypeId × Value → H} {W : World} {base : Nat} {sp : Nat → Bool} {held : Bool} {n : Nat} {cs : List Value} {x : DataW H × List MemPlace}
    (h : DataW.trod enc Tryz.prog W base sp held n 32 cs = some x) : ∃ (l : List Lt) (v : Value), cs = [v] ∧ LIn (· < W.heap.size) W l v ∧ (l.map fun y => klen y.2 + 3).sum ≤ Rows.uptoBulk x.1 := by
  rcases DataW.trod_slice Tryz.underlying32 h with ⟨rfl, rfl⟩ | ⟨a, len, cap, elems, rest, m, hn, rfl, rfl, _, hle, hm, hlen, hel, _⟩
  · exact ⟨[], _, rfl, LIn.nil _ _, by simp⟩
  · have each : ∀ i, i < len → ∃ tv : Lt × Value, (∀ j u, (KL.cells tv)[j]? = some u → W.cell? (a.add (i * 3 + j)) = some u) ∧ KL.inn (· < W.heap.size) W tv ∧ ∀ z, (elems.map (·.1))[i]? = some z → klen tv.1.2 + 3 ≤ Rows.uptoBulk z := by
      intro i hi
      have he := hel i hi
      rw [List.getElem?_eq_getElem (by omega)] at he
      obtain ⟨cs', h1, h2⟩ := Option.bind_eq_some_iff.1 he
      rw [cellsLit] at h1
      obtain ⟨_, hl2, hcell⟩ := World.cells?_some h1
      obtain ⟨y, v, rfl, hin, hbk⟩ := lit_in h2
      refine ⟨(y, v), fun j u hu => ?_, hin, fun z hz => ?_⟩
      · have hj := (List.getElem?_eq_some_iff.1 hu).1
        have hj3 : j < 3 := by rw [KL.len] at hj; exact hj
        have e0 := hcell j (by omega)
        rw [add_add] at e0
        rw [e0]
        exact hu
      · rw [List.getElem?_map, List.getElem?_eq_getElem (by omega)] at hz
        have hz' : (elems[i]'(by omega)).1 = z := by simpa using hz
        rw [← hz']
        exact hbk
    obtain ⟨tvs, htl, hall⟩ := gather each
    obtain ⟨b, off, spot⟩ := a
    have hsp : tvs ≠ [] → spot = none ∧ b < W.heap.size := by
      intro hne
      obtain ⟨tv, hg⟩ : ∃ tv, tvs[0]? = some tv := by cases tvs with
        | nil => exact absurd rfl hne
        | cons a r => exact ⟨a, rfl⟩
      have h0 := (hall 0 tv hg).1 0 _ rfl
      have h2 : spot = none := by simpa [Addr.add] using World.cell?_spot h0
      subst h2
      exact ⟨rfl, by simpa [Addr.add] using block_lt_of_cell h0⟩
    refine ⟨tvs.map (·.1), .slice (some ⟨b, off, spot⟩) len cap, rfl, ⟨tvs, rfl, _, cap, by rw [htl], by omega, hm, fun x hx => ?_, fun hl => ?_⟩, ?_⟩
    · obtain ⟨i, hi⟩ := List.mem_iff_getElem?.1 hx
      exact (hall i x hi).2.1
    · obtain ⟨rfl, hb⟩ := hsp (by intro e; subst e; simp at hl)
      refine ⟨b, off, rfl, hb, fun i x hx j u hu => ?_⟩
      have := (hall i x hx).1 j u hu
      rw [addr_add, ← Nat.add_assoc] at this
      exact this
    · have key : ∀ (L : List (Lt × Value)) (es : List (DataW H)), L.length = es.length → (∀ (i : Nat) t d, L[i]? = some t → es[i]? = some d → klen t.1.2 + 3 ≤ Rows.uptoBulk d) → (L.map fun y => klen y.1.2 + 3).sum ≤ Rows.uptoBulkAll es := by
        intro L
        induction L with
        | nil => intro es _ _; simp
        | cons t L ih =>
          intro es hl hh
          cases es with
          | nil => simp at hl
          | cons d es =>
            have h0 := hh 0 t d rfl rfl
            have h1 := ih es (by simpa using hl) (fun i t d ht hd => hh (i + 1) t d (by simpa using ht) (by simpa using hd))
            simp only [List.map_cons, List.sum_cons, Rows.uptoBulkAll]
            omega
      refine Nat.le_trans ?_ (all_app0 _ _)
      have := key tvs (elems.map (·.1)) (by simp [htl, hlen]) (fun i t d ht hd => (hall i t ht).2.2 d hd)
      rw [List.map_map]
      exact this
/-- Three cells that read as a rule. -/
theorem rule_in {H : Type} {enc : TypeId × Value → H} {W : World} {base : Nat} {sp : Nat → Bool} {held : Bool} {n : Nat} {cs : List Value} {x : DataW H × List MemPlace}
    (h : DataW.trod enc Tryz.prog W base sp held n 34 cs = some x) :
    ∃ (y : Rl) (v v' : Value), cs = KR.cells (y, v, v') ∧ KR.inn (· < W.heap.size) W (y, v, v') ∧ klen y.1 + (y.2.map fun y => klen y.2 + 3).sum + 1 ≤ Rows.uptoBulk x.1 := by
  obtain ⟨f0, f1, hu, o0, o1, y0, y1⟩ := underRule
  obtain ⟨xs, k, hk, hxy, hcl, hxl, hf⟩ := DataW.trod_struct hu h
  rw [cellsRule] at hcl
  obtain ⟨v0, v1, v2, rfl⟩ := three_of cs hcl
  match xs, hxl with
  | [x0, x1], _ =>
    have g0 := hf 0 f0 rfl
    have g1 := hf 1 f1 rfl
    simp [o0, o1, y0, y1, cellsLits, cellsT] at g0 g1
    obtain ⟨s, v, k2, y, e, _, hs, hv, hx1⟩ := struct_in g0
    injection e with e1 e2
    injection e2 with e2 _
    subst e1 e2
    obtain ⟨l, v', e', hin, hbk⟩ := slice_in2 _ _ _ hv
    injection e' with e' _
    subst e'
    obtain ⟨m, v', e', hin2, hbk2⟩ := lits_in g1
    injection e' with e' _
    subst e'
    refine ⟨(.mk s l, m), _, _, rfl, ⟨hin, hs, hin2⟩, ?_⟩
    rw [hxy]
    have := text_bulk s l y.1 hbk
    have e5 : x0.1 = _ := hx1
    simp only [List.map_cons, List.map_nil, Rows.uptoBulk, Rows.uptoBulkAll]
    rw [e5]
    omega
set_option maxRecDepth 100000 in
theorem open_rule2 {H : Type} {enc : TypeId × Value → H} {W : World} {b0 : Nat} {base : Nat} {sp : Nat → Bool} {held : Bool} {v : Value} {d : DataW H} {p : List MemPlace}
    (hv : Value.okWide Tryz.prog W .any b0 34 v) (h : DataW.Trod enc Tryz.prog W base sp held 34 v d p) : ∃ (r : Rl) (sa sl : Value), v = .agg #[.string r.1.nm, sa, sl] ∧ r.1.nm.size ≤ maxLen ∧ SlIn (· < W.heap.size) W r.1.args sa ∧ LIn (· < W.heap.size) W r.2 sl ∧ klen r.1 + (r.2.map fun y => klen y.2 + 3).sum + 1 ≤ Rows.uptoBulk d := by
  obtain ⟨cs, rfl, hsz⟩ := WideShapes.okWide_struct underRule.choose_spec.choose_spec.1 hv
  obtain ⟨fuel, hf⟩ := h
  obtain ⟨y, v, v', e, hin, hbk⟩ := rule_in hf
  have e : cs.toList = [.string y.1.nm, v, v'] := by simpa [Value.cells, KR] using e
  obtain rfl : cs = #[.string y.1.nm, v, v'] := Array.ext' e
  exact ⟨y, v, v', rfl, hin.2.1, hin.1, hin.2.2, hbk⟩
end UnqG
end Go.Proofs.YtjfgnmmcdgpiiaaGreatDoor
/- Rename of a rule without a body whose new names are all variables. Conditions: fewer than a hundred variables, at most 900000 parts. -/
namespace Go.Proofs.YtjfgnmmcdgpiiaaGreatDoor
open Go Go.RowKit Go.Maps Go.WideMaps
namespace UnmI
open LexM TermM TermI Kit TermN TermU TermL TermE TermF UniK UniM UniA UniC UniD UniE UnmA UnmB UnmC UnmD UnmE UnmF UnmG UnmH
def namesK (f : Nat → ByteArray) (vs : List ByteArray) : Nat → List (Ky × ByteArray)
  | 0 => []
  | k + 1 => match vs[k]? with
    | some v => (v.data.toList, f k) :: namesK f vs k
    | none => namesK f vs k
def newName (pre : ByteArray) (k : Nat) : ByteArray := pre ++ ⟨(Lib.decDigits (k + 1)).toArray⟩
theorem names_next {f : Nat → ByteArray} {vs : List ByteArray} {k : Nat} {v : ByteArray} (h : vs[k]? = some v) : namesV (namesK f vs (k + 1)) = (v.data.toList, Value.string (f k)) :: namesV (namesK f vs k) := by
  simp [namesK, h, namesV]
theorem names_mem {f : Nat → ByteArray} {vs : List ByteArray} : ∀ {k : Nat} {x : Ky × ByteArray}, x ∈ namesK f vs k → ∃ j, j < k ∧ j < vs.length ∧ x.2 = f j
  | 0, x, h => by simp [namesK] at h
  | k + 1, x, h => by
    unfold namesK at h
    cases hv : vs[k]? with
    | none =>
      rw [hv] at h
      obtain ⟨j, h1, h2⟩ := names_mem h
      exact ⟨j, by omega, h2⟩
    | some v =>
      rw [hv] at h
      rcases List.mem_cons.1 h with rfl | h
      · exact ⟨k, by omega, (List.getElem?_eq_some_iff.1 hv).1, rfl⟩
      · obtain ⟨j, h1, h2⟩ := names_mem h
        exact ⟨j, by omega, h2⟩
/-- What Rename leaves. -/
def RnR (u : Tm) (w : World) (e : Ending) (w' : World) : Prop :=
  ∃ (p : Option Addr) (c : Nat), e = .returned (.tuple #[.agg #[.string u.nm, .slice p u.args.length c, .slice none 0 0], .bool true]) ∧ SlIn (fun b => w.heap.size ≤ b ∧ b < w'.heap.size) w' u.args (.slice p u.args.length c) ∧ u.nm.size ≤ maxLen ∧ Below w.heap.size w w'
set_option maxRecDepth 100000 in
set_option maxHeartbeats 1600000 in
theorem rename_nil (h : Tm) (pre : ByteArray) (B : Nat) (w : World) (hv : Value) (hB : B ≤ w.heap.size) (hs : SlIn (· < B) w h.args hv) (hn : h.nm.size ≤ maxLen) (hz : sizeT h ≤ 900000)
    (hl : (varsOf (leavesL [h])).length < 99) (hN : ∀ k, k < (varsOf (leavesL [h])).length → varB (newName pre k) = true) :
    Calls Tryz.prog 33 #[.agg #[.string h.nm, hv, .slice none 0 0], .string pre] w (RnR (repT (renT (namesK (newName pre) (varsOf (leavesL [h])) (varsOf (leavesL [h])).length)) h) w) := by
  obtain ⟨p, c, rfl⟩ := hs.form
  obtain ⟨W2, hW2⟩ : ∃ W2, W2 = (w.alloc (.cells #[.string h.nm, .slice p h.args.length c, .slice none 0 0] 34)).alloc (.cells #[.string ⟨#[]⟩, .slice none 0 0, .slice none 0 0] 34) := ⟨_, rfl⟩
  have B2 : Hid (Below w.heap.size w W2) := Lib.hid (by rw [hW2]; exact next0 (below_alloc _ _) (below_alloc _ _))
  have H2 : Hid (Has W2 w.heap.size #[.string h.nm, .slice p h.args.length c, .slice none 0 0]) := Lib.hid (by rw [hW2]; exact (Has.new w _ _).alloc _)
  have E2 : Hid (Has W2 (w.heap.size + 1) #[.string ⟨#[]⟩, .slice none 0 0, .slice none 0 0]) := Lib.hid (by rw [hW2]; exact Has.new1 w _ _ _)
  have hs2 : w.heap.size + 2 ≤ W2.heap.size := by rw [hW2]; simp
  obtain ⟨W3, hW3⟩ : ∃ W3, W3 = (W2.alloc (.map #[] 0)).alloc (.cells #[.map (some W2.heap.size)] 80) := ⟨_, rfl⟩
  have B3 : Hid (Below W2.heap.size W2 W3) := Lib.hid (by rw [hW3]; exact next0 (below_alloc _ _) (below_alloc _ _))
  have M3 : Hid (W3.ownsMap Tryz.prog 9 heldE W2.heap.size 0 (DataOf (namesV (namesK (newName pre) (varsOf (leavesL [h])) 0)))) := Lib.hid (by rw [hW3]; exact (World.ownsMap_made _ _ _ _).alloc _)
  have N3 : Hid (Has W3 (W2.heap.size + 1) #[.map (some W2.heap.size)]) := Lib.hid (by rw [hW3]; exact Has.new1 W2 _ _ _)
  have hs3 : W2.heap.size + 2 ≤ W3.heap.size := by rw [hW3]; simp
  have D3 := Lib.hid (next0 B2.out B3.out)
  have CV := Lib.hid (rvars_nil h B W3 (.slice p h.args.length c) (Nat.le_trans hB D3.out.size) (hs.deep D3.out hB) hn hz)
  have CB := Lib.hid (fun NL w' (k : Below w.heap.size w w') (HF : ∀ (w'' : World) (n : ByteArray), Below w'.heap.size w' w'' → n.size ≤ maxLen → Calls Tryz.prog 64 #[.string n, .pointer (some ⟨W2.heap.size + 1, 0, none⟩)] w'' (RepR (renT NL n) w'')) => rinr_nil (W2.heap.size + 1) (renT NL) h B w' (.slice p h.args.length c) (Nat.le_trans hB k.size) (hs.deep k hB) hn (by omega) HF)
  have hmm := @run_makeMap Tryz.prog
  have hmf := @hmf0
  unfold Vrs at CV
  have VV := Lib.hid (fun v (h9 : v ∈ varsOf (leavesL [h])) => var_ok (vars_var v h9))
  clear hs hn hz hB
  generalize varsOf (leavesL [h]) = vs at *
  generalize hm : vs.length = m at *
  have HM := Lib.hid hm
  have NX := Lib.hid (fun k v (h : vs[k]? = some v) => names_next (f := newName pre) h)
  have NM := Lib.hid (fun x (h : x ∈ namesK (newName pre) vs m) => show x.2.size ≤ maxLen from by
    obtain ⟨j, h1, h2, h3⟩ := names_mem h
    rw [h3]
    have := var_ok (hN j h1)
    unfold maxLen
    omega)
  have VN := Lib.hid hN
  have VL := Lib.hid (fun k (h : k < m) => var_ok (hN k h))
  clear hm hN
  have CB1 := Lib.hid (CB.out (namesK (newName pre) vs m))
  generalize hNL : namesK (newName pre) vs = NL at *
  clear hNL
  generalize repT (renT (NL m)) h = u at *
  unfold RuR at CB1
  generalize h.nm = hnm at *
  generalize h.args.length = hl9 at *
  clear CB
  have k1 := H2.out.cell 0
  obtain ⟨y1, y2, y3⟩ := UniA.three (H2.out.step0 B3.out)
  go_enter Tryz.func33, Tryz.ntmps33
  go_upto_region 1 with fail
  rw [← hW2]
  clear hW2
  go_upto_region 2 with fail
  rw [← hW3]
  clear hW3 hmm k1
  go_wp2_with fail
  refine CV.out.mono ?_
  rintro e w4 ⟨v4, base4, rfl, h1, h2, h3⟩
  obtain ⟨a9, c9, rfl⟩ := row_form h1
  have O4 := Lib.hid h1
  have D4 := Lib.hid (next0 D3.out h3)
  have M4 := Lib.hid (M3.out.kept (row := none) ⟨h3.os, h3.tape, h3.output, h3.size, fun i hi _ => h3.block i hi⟩ (by simp))
  have N4 := Lib.hid (N3.out.step0 h3)
  have H4 := Lib.hid ((H2.out.step0 B3.out).step0 h3)
  have E4 := Lib.hid ((E2.out.step0 B3.out).step0 h3)
  have hs4 : W3.heap.size ≤ w4.heap.size := h3.size
  clear h1 h3 y1 y2 y3 M3 N3 CV
  go_wp2_with fail
  go_loopw [14] (fun i wr => ∃ k : Nat, k ≤ m ∧ i = .int .i64 k ∧ Hid (wr.ownsMap Tryz.prog 9 heldE W2.heap.size k (DataOf (namesV (NL k)))) ∧ Hid (Ch W2.heap.size w4 wr)) (fun i _ => m - (intOf i).toNat)
  case atStart => exact ⟨0, Nat.zero_le _, rfl, M4, Lib.hid (Ch.refl _ _)⟩
  case round =>
    obtain ⟨k, hk, rfl, hM, hF⟩ := hrel
    by_cases hlt : k < m
    · obtain ⟨v0, hv0⟩ : ∃ v0, vs[k]? = some v0 := ⟨vs[k]'(by rw [HM.out]; exact hlt), by simp⟩
      have OR : wr.ownsRow base4 9 1 (.slice a9 m c9) vs.length (strs vs) := by
        rw [HM.out]
        exact O4.out.kept hF.out (Or.inr (fun e => by have := (O4.out.lt _ e).1; omega))
      obtain ⟨g, cap, hav, hcell, hgb, hgl⟩ := row_str OR hv0
      injection hav with hav1 hav3 hav2
      subst hav1 hav2
      clear hav3
      have CI : Hid (∀ w', Calls Tryz.prog 63 #[.int .i64 ((k : Int) + 1)] w' fun e w'' => e = .returned (.string ⟨(Lib.decDigits (k + 1)).toArray⟩) ∧ w'' = w') := Lib.hid (fun w' => by
        have := Tryz.strconv_Itoa_small (k + 1) (by omega) w'
        simpa using this)
      have hv16 : (pre ++ ⟨(Lib.decDigits (k + 1)).toArray⟩).size ≤ 16 := VL.out k hlt
      have KV := Lib.hid (fun w' => TermC.var_any (newName pre k) w' (by have := VL.out k hlt; omega))
      have KB9 : Hid (varL (newName pre k).data.toList = true) := Lib.hid (VN.out k hlt)
      rw [KB9.out] at KV
      unfold newName at KV
      have HNX := Lib.hid (NX.out k v0 hv0)
      have hvl9 : v0.size ≤ maxLen := by have := VV.out v0 (List.mem_of_getElem? hv0); unfold maxLen; omega
      have HK : keyOf Tryz.prog 9 (.string v0) = some (.string v0.data.toList) := keyOf_string_mk Tryz.underlying9 hvl9
      have A0 : k < maxLen := by unfold maxLen; omega
      have c6 : wr.cell? ⟨W2.heap.size + 1, 0, none⟩ = some (.map (some W2.heap.size)) := (hF.out.has N4.out (by omega)).cell 0
      clear hv0 OR KB9
      generalize hdg : (⟨(Lib.decDigits (k + 1)).toArray⟩ : ByteArray) = dg at *
      have hv1 : pre.size ≤ 16 := by rw [ByteArray.size_append] at hv16; omega
      have hv2 : dg.size ≤ 16 := by rw [ByteArray.size_append] at hv16; omega
      have HDG : Hid (newName pre k = pre ++ dg) := Lib.hid (by rw [← hdg]; rfl)
      clear hdg
      go_wp2_with fail
      refine (CI.out _).mono ?_
      rintro e w5 ⟨rfl, rfl⟩
      go_wp2_with fail
      refine (KV.out _).mono ?_
      rintro e w5' ⟨rfl, rfl⟩
      go_wp2_with (at_mapUpdate; refine wpList_mapUpdate_own _ rfl _ _ _ 80 rfl 9 9 TermE.law Tryz.underlying80 heldE W2.heap.size k _ rfl hM.out A0 _ _ _ rfl rfl HK _ [] rfl ?_; intro w6 hown6 hgrow6)
      have M6 : Hid (w6.ownsMap Tryz.prog 9 heldE W2.heap.size (k + 1) (DataOf (namesV (NL (k + 1))))) := Lib.hid (by rw [HNX.out, HDG.out]; exact hown6)
      have F6 := Lib.hid (hF.out.trans hgrow6)
      clear hown6 hgrow6
      go_wp2_with fail
      go_roundw
      case rel => (repeat (refine Exists.intro _ ?_)); first | exact ⟨k + 1, by omega, by go_num, M6, F6⟩ | (refine ⟨?_, rfl⟩; exact ⟨k + 1, by omega, by go_num, M6, F6⟩)
      case measure => simp [intOf]; omega
    · obtain rfl : k = m := by omega
      have B5 : Hid (Below W2.heap.size w4 wr) := Lib.hid (hF.out.toBelow (Nat.le_refl _) (by omega))
      have D5 := Lib.hid (D4.out.trans (B5.out.mono (by omega)))
      have H5 := Lib.hid (hF.out.has H4.out (by omega))
      have E5 := Lib.hid (hF.out.has E4.out (by omega))
      have N5 := Lib.hid (hF.out.has N4.out (by omega))
      have CB2 := Lib.hid (CB1.out wr D5.out (fun w'' n k9 hn => renamer_any (NL k) W2.heap.size (W2.heap.size + 1) k n hn NM.out w'' (hM.out.kept (row := none) ⟨k9.os, k9.tape, k9.output, k9.size, fun i hi _ => k9.block i hi⟩ (by simp)) (N5.out.step0 k9)))
      obtain ⟨y1, y2, y3⟩ := UniA.three H5.out
      clear CB1 hF hM
      go_wp2_with fail
      refine CB2.out.mono ?_
      rintro e w7 ⟨q, d, rfl, hS, hnu, k7⟩
      have D7 := Lib.hid (next0 D5.out k7)
      have E7 := Lib.hid (E5.out.step0 k7)
      have S7 := Lib.hid (hS.weaken (ok' := fun b => wr.heap.size ≤ b ∧ b < w7.heap.size) (fun b hb => hb))
      have NU := Lib.hid hnu
      have hsr : w4.heap.size ≤ wr.heap.size := B5.out.size
      clear y1 y2 y3 hS hnu k7 CB2
      obtain ⟨z1, z2, z3⟩ := UniA.three E7.out
      have f1 := E7.out.free 0
      have f2 := E7.out.free 1
      have f3 := E7.out.free 2
      have R8 := put3 E7.out (.string u.nm) (.slice q u.args.length d) (.slice none 0 0)
      obtain ⟨r1, r2, r3⟩ := UniA.three R8
      have D8 := Lib.hid (((D7.out.setCell (p := ⟨w.heap.size + 1, 0, none⟩) (by simp) (.string u.nm)).setCell (p := ⟨w.heap.size + 1, 1, none⟩) (by simp) (.slice q u.args.length d)).setCell (p := ⟨w.heap.size + 1, 2, none⟩) (by simp) (.slice none 0 0))
      have S8 := Lib.hid (S7.out.frame (w' := ((w7.setCell ⟨w.heap.size + 1, 0, none⟩ (.string u.nm)).setCell ⟨w.heap.size + 1, 1, none⟩ (.slice q u.args.length d)).setCell ⟨w.heap.size + 1, 2, none⟩ (.slice none 0 0)) (fun b o hb => by
        rw [cell_far (by show b ≠ w.heap.size + 1; omega), cell_far (by show b ≠ w.heap.size + 1; omega), cell_far (by show b ≠ w.heap.size + 1; omega)]))
      clear R8 E7 D7 S7
      go_wp2_with fail
      refine bodyPost_ret (v := .tuple #[.agg #[.string u.nm, .slice q u.args.length d, .slice none 0 0], .bool true]) (by simp [results, Tryz.results33, go_sem, r1, r2, r3]) rfl ?_
      unfold RnR
      exact ⟨q, d, rfl, S8.out.weaken (fun b hb => ⟨by omega, by simpa [World.setCell] using hb.2⟩), NU.out, D8.out⟩
end UnmI
end Go.Proofs.YtjfgnmmcdgpiiaaGreatDoor
/- The chapter's examples, plain. No conditions. -/
namespace Go.Proofs.YtjfgnmmcdgpiiaaGreatDoor
open Go Go.RowKit
namespace UnmJ
open LexM TermM TermI Kit TermN TermU TermL TermE TermF UniK UniM UniA UniC UniD UniE UniO TermT UnmA UnmE UnmF UnmH UnmI
abbrev tA : Tm := .mk ⟨#[97]⟩ []
abbrev tX : Tm := .mk ⟨#[88]⟩ []
abbrev tY : Tm := .mk ⟨#[89]⟩ []
abbrev p2 (n : ByteArray) (s t : Tm) : Tm := .mk n [s, t]
abbrev nP : ByteArray := ⟨#[112]⟩
abbrev both : List Bd := [(⟨#[88]⟩, tA), (⟨#[89]⟩, tA)]
theorem sort2 : sortB [⟨#[88]⟩, ⟨#[89]⟩] = [⟨#[88]⟩, ⟨#[89]⟩] := by
  unfold sortB
  rw [List.mergeSort_of_pairwise (by simp [lists]; decide)]
  rfl
theorem sort1 : sortB [⟨#[88]⟩] = [⟨#[88]⟩] := by
  unfold sortB
  rw [List.mergeSort_of_pairwise (by simp [lists])]
  rfl
theorem v1 : varsOf (leavesL [p2 nP tX tY, p2 nP tY tA]) = [⟨#[88]⟩, ⟨#[89]⟩] := by kernel_rfl
theorem v2 : varsOf (leavesL [tX, p2 ⟨#[102]⟩ tX tA]) = [⟨#[88]⟩] := by kernel_rfl
theorem v3 : varsOf (leavesL [p2 nP tX tY]) = [⟨#[88]⟩, ⟨#[89]⟩] := by kernel_rfl
theorem u1 : unifyP 9 (p2 nP tX tY) (p2 nP tY tA) = some (some both) := by
  unfold unifyP
  rw [v1, sort2]
  kernel_rfl
theorem u2 : unifyP 9 tX (p2 ⟨#[102]⟩ tX tA) = some none := by
  unfold unifyP
  rw [v2, sort1]
  kernel_rfl
theorem len_le {a b : Tm} {k : Nat} (h : (joinP 9 [] a b).map (fun z => z.1.length) = some k) (hk : k ≤ 1000000) : ∀ D r, joinP 9 [] a b = some (D, r) → D.length ≤ 1000000 := by
  intro D r e
  rw [e] at h
  cases h
  exact hk
theorem l1 : (joinP 9 [] (p2 nP tX tY) (p2 nP tY tA)).map (fun z => z.1.length) = some 3 := by kernel_rfl
theorem l2 : (joinP 9 [] tX (p2 ⟨#[102]⟩ tX tA)).map (fun z => z.1.length) = some 1 := by kernel_rfl
theorem m1 : matchP (p2 nP tX tY) (p2 nP tA tA) [] = some both := by kernel_rfl
theorem a1 : appT [(⟨#[88]⟩, tY), (⟨#[89]⟩, tA)] (p2 nP tX tY) = p2 nP tY tA := by kernel_rfl
theorem d1 : vldS both = true := by kernel_rfl
theorem r1 : repT (renT (namesK (newName ⟨#[86]⟩) [⟨#[88]⟩, ⟨#[89]⟩] 2)) (p2 nP tX tY) = p2 nP (.mk ⟨#[86, 49]⟩ []) (.mk ⟨#[86, 50]⟩ []) := by kernel_rfl
theorem n1 : varB (newName ⟨#[86]⟩ 0) = true ∧ varB (newName ⟨#[86]⟩ 1) = true := ⟨by kernel_rfl, by kernel_rfl⟩
theorem ok_of {t : Tm} {m k : Nat} (h0 : t.nm.size ≤ 16) (h1 : (textT t).length = m) (h2 : sizeT t = k) (h3 : m ≤ 1000000) (h4 : k ≤ 1000000) : Ok t := ⟨by unfold maxLen; omega, by omega, by omega⟩
theorem okX : Ok tX := ok_of (m := 1) (k := 1) (by decide) (by kernel_rfl) (by kernel_rfl) (by decide) (by decide)
theorem okP : Ok (p2 nP tX tY) := ok_of (m := 6) (k := 3) (by decide) (by kernel_rfl) (by kernel_rfl) (by decide) (by decide)
theorem okQ : Ok (p2 nP tY tA) := ok_of (m := 6) (k := 3) (by decide) (by kernel_rfl) (by kernel_rfl) (by decide) (by decide)
theorem okF : Ok (p2 ⟨#[102]⟩ tX tA) := ok_of (m := 6) (k := 3) (by decide) (by kernel_rfl) (by kernel_rfl) (by decide) (by decide)
end UnmJ
end Go.Proofs.YtjfgnmmcdgpiiaaGreatDoor
/- The calls of the chapter's examples. Condition: the variable nameEnds holds its bytes. -/
namespace Go.Proofs.YtjfgnmmcdgpiiaaGreatDoor
open Go Go.RowKit
namespace UnmK
open LexM TermM TermI Kit TermN TermU TermL TermE TermF UniK UniM UniA UniC UniD UniE UniF UniO UniL UniP UniQ UniV TermT UnmA UnmE UnmF UnmG UnmH UnmI UnmJ
/-- A term with two arguments. -/
def TwR (n : ByteArray) (l : List Tm) (w : World) (e : Ending) (w' : World) : Prop :=
  ∃ (p : Option Addr) (c : Nat), e = .returned (.agg #[.string n, .slice p 2 c]) ∧ SlIn (· < w'.heap.size) w' l (.slice p 2 c) ∧ Below w.heap.size w w'
set_option maxRecDepth 100000 in
set_option maxHeartbeats 800000 in
theorem func2_any (n : ByteArray) (a b : Tm) (B : Nat) (w : World) (pa pb : Option Addr) (ca cb : Nat) (hB : B ≤ w.heap.size) (ha : SlIn (· < B) w a.args (.slice pa a.args.length ca)) (hb : SlIn (· < B) w b.args (.slice pb b.args.length cb)) (hna : a.nm.size ≤ maxLen) (hnb : b.nm.size ≤ maxLen) :
    Calls Tryz.prog 37 #[.string n, .agg #[.string a.nm, .slice pa a.args.length ca], .agg #[.string b.nm, .slice pb b.args.length cb]] w (TwR n [a, b] w) := by
  obtain ⟨W3, hW3⟩ : ∃ W3, W3 = ((w.alloc (.cells #[.string a.nm, .slice pa a.args.length ca] 27)).alloc (.cells #[.string b.nm, .slice pb b.args.length cb] 27)).alloc (.cells #[.string ⟨#[]⟩, .slice none 0 0] 27) := ⟨_, rfl⟩
  have B3 : Hid (Below w.heap.size w W3) := Lib.hid (by rw [hW3]; exact next0 (next0 (below_alloc _ _) (below_alloc _ _)) (below_alloc _ _))
  have H3 : Hid (Has W3 w.heap.size #[.string a.nm, .slice pa a.args.length ca]) := Lib.hid (by rw [hW3]; exact ((Has.new w _ _).alloc _).alloc _)
  have T3 : Hid (Has W3 (w.heap.size + 1) #[.string b.nm, .slice pb b.args.length cb]) := Lib.hid (by rw [hW3]; exact (Has.new1 w _ _ _).alloc _)
  have E3 : Hid (Has W3 (w.heap.size + 1 + 1) #[.string ⟨#[]⟩, .slice none 0 0]) := Lib.hid (by rw [hW3]; exact Has.new2 w _ _ _ _)
  obtain ⟨W4, hW4⟩ : ∃ W4, W4 = W3.alloc (.cells #[.string a.nm, .slice pa a.args.length ca, .string b.nm, .slice pb b.args.length cb] 27) := ⟨_, rfl⟩
  have B4 : Hid (Below w.heap.size w W4) := Lib.hid (by rw [hW4]; exact next0 B3.out (below_alloc _ _))
  have hs3 : w.heap.size + 3 ≤ W3.heap.size := by rw [hW3]; simp
  have hs4 : W3.heap.size + 1 = W4.heap.size := by rw [hW4]; simp
  have N4 : Hid (Has W4 W3.heap.size #[.string a.nm, .slice pa a.args.length ca, .string b.nm, .slice pb b.args.length cb]) := Lib.hid (by rw [hW4]; exact Has.new _ _ _)
  have E4 : Hid (Has W4 (w.heap.size + 1 + 1) #[.string ⟨#[]⟩, .slice none 0 0]) := Lib.hid (by rw [hW4]; exact E3.out.alloc _)
  obtain ⟨W5, hW5⟩ : ∃ W5, W5 = (W4.setCell ⟨w.heap.size + 1 + 1, 0, none⟩ (.string n)).setCell ⟨w.heap.size + 1 + 1, 1, none⟩ (.slice (some ⟨W3.heap.size, 0, none⟩) 2 2) := ⟨_, rfl⟩
  have B5 : Hid (Below w.heap.size w W5) := Lib.hid (by rw [hW5]; exact (B4.out.setCell (p := ⟨w.heap.size + 1 + 1, 0, none⟩) (by show w.heap.size ≤ w.heap.size + 1 + 1; omega) _).setCell (p := ⟨w.heap.size + 1 + 1, 1, none⟩) (by show w.heap.size ≤ w.heap.size + 1 + 1; omega) _)
  have N5 : Has W5 W3.heap.size #[.string a.nm, .slice pa a.args.length ca, .string b.nm, .slice pb b.args.length cb] := by
    rw [hW5]
    exact (N4.out.far (p := ⟨w.heap.size + 1 + 1, 0, none⟩) (by show W3.heap.size ≠ w.heap.size + 1 + 1; omega) _).far (p := ⟨w.heap.size + 1 + 1, 1, none⟩) (by show W3.heap.size ≠ w.heap.size + 1 + 1; omega) _
  have hs5 : W4.heap.size = W5.heap.size := by rw [hW5]; simp [World.setCell]
  have SL := Lib.hid (TermH.slin_of (B := B) (B' := W5.heap.size) (cap := 2) (L := [(a, .slice pa a.args.length ca), (b, .slice pb b.args.length cb)]) (by omega) (by have := B5.out.size; omega) (Nat.le_refl _) (by unfold maxLen; simp) N5 (fun x hx => by
    rcases List.mem_cons.1 hx with rfl | hx
    · exact ⟨ha.deep B5.out hB, hna⟩
    · obtain rfl := List.mem_singleton.1 hx
      exact ⟨hb.deep B5.out hB, hnb⟩))
  dsimp only [List.map, List.length] at SL
  obtain ⟨e1, e2, e3, e4, e5⟩ := E4.out.two
  have r1 : W5.cell? ⟨w.heap.size + 1 + 1, 0, none⟩ = some (.string n) := by rw [hW5]; exact (((E4.out.set 0 (.string n)).set 1 _).cell 0)
  have r2 : W5.cell? ⟨w.heap.size + 1 + 1, 1, none⟩ = some (.slice (some ⟨W3.heap.size, 0, none⟩) 2 2) := by rw [hW5]; exact (((E4.out.set 0 (.string n)).set 1 _).cell 1)
  clear ha hb hna hnb N4 N5 E4 E3 B4
  obtain ⟨y1, y2, _⟩ := H3.out.two
  obtain ⟨z1, z2, _⟩ := T3.out.two
  unfold TwR
  have HL : Hid ([a, b] = [a, b]) := Lib.hid rfl
  generalize [a, b] = l at *
  generalize a.nm = an at *
  generalize a.args.length = al at *
  generalize b.nm = bn at *
  generalize b.args.length = bl at *
  clear HL
  go_enter Tryz.func37, Tryz.ntmps37
  go_upto_region 1 with fail
  rw [← hW3]
  clear hW3
  rw [hW4] at e1 e2 e3 e4
  go_wp2_with fail
  rw [← hW4, ← hW5]
  refine bodyPost_ret (v := .agg #[.string n, .slice (some ⟨W3.heap.size, 0, none⟩) 2 2]) (by simp [results, Tryz.results37, go_sem, r1, r2]) rfl ?_
  exact ⟨_, _, rfl, SL.out, B5.out⟩
/-! ### The examples -/
theorem z1 : sizeT (p2 nP tX tY) = 3 := by kernel_rfl
theorem z2 : sizeT (p2 nP tY tA) = 3 := by kernel_rfl
theorem z3 : sizeT tX = 1 := by kernel_rfl
theorem z4 : sizeT (p2 ⟨#[102]⟩ tX tA) = 3 := by kernel_rfl
theorem z5 : sizeT (p2 nP tA tA) = 3 := by kernel_rfl
theorem c_u1 (w : World) (hw : Wd w) (p q : Option Addr) (c d : Nat) (h1 : SlIn (· < w.heap.size) w [tX, tY] (.slice p 2 c)) (h2 : SlIn (· < w.heap.size) w [tY, tA] (.slice q 2 d)) :
    Calls Tryz.prog 29 #[.agg #[.string ⟨#[112]⟩, .slice p 2 c], .agg #[.string ⟨#[112]⟩, .slice q 2 d]] w fun e w' => ∃ v : Value, e = .returned (.tuple #[v, .bool true]) ∧ SIn (· < w'.heap.size) w' both v ∧ Below w.heap.size w w' := by
  have := unify_any sortc 9 (p2 nP tX tY) (p2 nP tY tA) (some both) u1 okP okQ (by rw [z1, z2]; decide) (len_le l1 (by decide)) w.heap.size w (.slice p 2 c) (.slice q 2 d) hw hw.1 (Nat.le_refl _) h1 h2
  refine this.mono ?_
  rintro e w' ⟨v, f, rfl, ht, hf, hb⟩
  cases f
  · cases (hf rfl).1
  · obtain ⟨s', e1, h⟩ := ht rfl
    cases e1
    exact ⟨v, rfl, h, hb⟩
theorem c_u2 (w : World) (hw : Wd w) (q : Option Addr) (d : Nat) (h2 : SlIn (· < w.heap.size) w [tX, tA] (.slice q 2 d)) :
    Calls Tryz.prog 29 #[.agg #[.string ⟨#[88]⟩, .slice none 0 0], .agg #[.string ⟨#[102]⟩, .slice q 2 d]] w fun e w' => e = .returned (.tuple #[.slice none 0 0, .bool false]) ∧ Below w.heap.size w w' := by
  have := unify_any sortc 9 tX (p2 ⟨#[102]⟩ tX tA) none u2 okX okF (by rw [z3, z4]; decide) (len_le l2 (by decide)) w.heap.size w (.slice none 0 0) (.slice q 2 d) hw hw.1 (Nat.le_refl _) (SlIn.none _ _) h2
  refine this.mono ?_
  rintro e w' ⟨v, f, rfl, ht, hf, hb⟩
  cases f
  · obtain ⟨_, rfl⟩ := hf rfl
    exact ⟨rfl, hb⟩
  · obtain ⟨s', e1, h⟩ := ht rfl
    cases e1
theorem c_m (w : World) (p q : Option Addr) (c d : Nat) (h1 : SlIn (· < w.heap.size) w [tX, tY] (.slice p 2 c)) (h2 : SlIn (· < w.heap.size) w [tA, tA] (.slice q 2 d)) :
    Calls Tryz.prog 26 #[.agg #[.string ⟨#[112]⟩, .slice p 2 c], .agg #[.string ⟨#[112]⟩, .slice q 2 d], .slice none 0 0] w fun e w' => ∃ v : Value, e = .returned (.tuple #[v, .bool true]) ∧ SIn (· < w'.heap.size) w' both v ∧ Below w.heap.size w w' := by
  have := match_any (p2 nP tX tY) (p2 nP tA tA) [] (by rw [z5]; decide) (fun y hy => by cases hy) w.heap.size w (.slice none 0 0) (.slice p 2 c) (.slice q 2 d) (Nat.le_refl _) (SIn.nil _ _) h1 h2 (by decide) (by decide)
  rw [m1] at this
  refine this.mono ?_
  rintro e w' ⟨v, f, rfl, ht, hf, hb⟩
  cases f
  · cases (hf rfl).1
  · obtain ⟨s', e1, h⟩ := ht rfl
    cases e1
    exact ⟨v, rfl, h, hb⟩
theorem d2 : vldS [(⟨#[88]⟩, tY), (⟨#[89]⟩, tA)] = true := by kernel_rfl
theorem c_a (w : World) (sv : Value) (p : Option Addr) (c : Nat) (hs : SIn (· < w.heap.size) w [(⟨#[88]⟩, tY), (⟨#[89]⟩, tA)] sv) (h1 : SlIn (· < w.heap.size) w [tX, tY] (.slice p 2 c)) :
    Calls Tryz.prog 20 #[sv, .agg #[.string ⟨#[112]⟩, .slice p 2 c]] w (TwR ⟨#[112]⟩ [tY, tA] w) := by
  have := apply_any [(⟨#[88]⟩, tY), (⟨#[89]⟩, tA)] (vld_srt d2).1 ⟨by decide, fun y hy => by
    rcases List.mem_cons.1 hy with rfl | hy
    · have e2 : sizeT tY = 1 := by kernel_rfl
      show sizeT tY ≤ _
      omega
    · obtain rfl := List.mem_singleton.1 hy
      have e2 : sizeT tA = 1 := by kernel_rfl
      show sizeT tA ≤ _
      omega⟩ (p2 nP tX tY) w.heap.size w sv (.slice p 2 c) (Nat.le_refl _) hs h1 (by decide) (by rw [z1]; decide)
  rw [a1] at this
  refine this.mono ?_
  rintro e w' ⟨q, d, rfl, h, _, hb⟩
  exact ⟨q, d, rfl, h.weaken fun b hb => hb.2, hb⟩
theorem c_r (w : World) (p : Option Addr) (c : Nat) (h1 : SlIn (· < w.heap.size) w [tX, tY] (.slice p 2 c)) :
    Calls Tryz.prog 33 #[.agg #[.string ⟨#[112]⟩, .slice p 2 c, .slice none 0 0], .string ⟨#[86]⟩] w fun e w' => ∃ (q : Option Addr) (d : Nat), e = .returned (.tuple #[.agg #[.string ⟨#[112]⟩, .slice q 2 d, .slice none 0 0], .bool true]) ∧ SlIn (· < w'.heap.size) w' [.mk ⟨#[86, 49]⟩ [], .mk ⟨#[86, 50]⟩ []] (.slice q 2 d) ∧ Below w.heap.size w w' := by
  have := rename_nil (p2 nP tX tY) ⟨#[86]⟩ w.heap.size w (.slice p 2 c) (Nat.le_refl _) h1 (by decide) (by rw [z1]; decide) (by rw [v3]; decide) (fun k hk => by
    rw [v3] at hk
    have hk2 : k < 2 := hk
    match k, hk2 with
    | 0, _ => exact n1.1
    | 1, _ => exact n1.2)
  rw [v3] at this
  rw [show ([⟨#[88]⟩, ⟨#[89]⟩] : List ByteArray).length = 2 from rfl, r1] at this
  refine this.mono ?_
  rintro e w' ⟨q, d, rfl, h, _, hb⟩
  exact ⟨q, d, rfl, h.weaken fun b hb => hb.2, hb⟩
end UnmK
end Go.Proofs.YtjfgnmmcdgpiiaaGreatDoor
