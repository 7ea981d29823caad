/- Texts laid together: TermS; TermA; TermB; TermC. Their own heads stand before each. -/
import Derived.Test.YtgbbpliihglijaaGreatGAA
/- Small terms: what the laws' bound on parts and levels counts. Conditions: none on the term (it stops early). -/
namespace Go.Proofs.YtgbbpliihglijaaGreat
open Go Go.RowKit
namespace TermS
open LexM TermM TermI Kit TermN
def partsT (M : Nat) : Nat → Tm → Nat
  | 0, _ => M + 1
  | d + 1, .mk _ l => l.foldl (fun n t => if M < n then n else n + partsT M d t) 1
def upN (M d : Nat) (l : List Tm) : Nat := l.foldl (fun n t => if M < n then n else n + partsT M d t) 1
theorem upN_next (M d : Nat) (l : List Tm) (k : Nat) (t : Tm) (h : l[k]? = some t) : upN M d (l.take (k + 1)) = if M < upN M d (l.take k) then upN M d (l.take k) else upN M d (l.take k) + partsT M d t := by
  unfold upN
  rw [take_get l k t h, List.foldl_append]
  rfl
theorem stuck (M d : Nat) : ∀ (l : List Tm) (n : Nat), M < n → l.foldl (fun n t => if M < n then n else n + partsT M d t) n = n
  | [], n, h => rfl
  | t :: l, n, h => by rw [List.foldl_cons, if_pos h]; exact stuck M d l n h
theorem upN_stuck (M d : Nat) (l : List Tm) (k : Nat) (h : M < upN M d (l.take k)) : upN M d l = upN M d (l.take k) := by
  have e : upN M d l = (l.drop k).foldl (fun n t => if M < n then n else n + partsT M d t) (upN M d (l.take k)) := by
    unfold upN
    rw [← List.foldl_append, List.take_append_drop]
  rw [e]
  exact stuck M d _ _ h
theorem parts_le (M : Nat) : ∀ (d : Nat) (t : Tm), partsT M d t ≤ (d + 1) * (M + 1)
  | 0, _ => by simp [partsT]
  | d + 1, .mk n l => by
    have key : ∀ (l : List Tm) (n : Nat), n ≤ (d + 2) * (M + 1) → l.foldl (fun n t => if M < n then n else n + partsT M d t) n ≤ (d + 2) * (M + 1) := by
      intro l
      induction l with
      | nil => intro n h; exact h
      | cons t l ih =>
        intro n h
        rw [List.foldl_cons]
        apply ih
        split
        · exact h
        · have := parts_le M d t
          have e : (d + 2) * (M + 1) = (d + 1) * (M + 1) + (M + 1) := by rw [show d + 2 = d + 1 + 1 from rfl, Nat.succ_mul]
          omega
    simp only [partsT]
    exact key l 1 (by have e : (d + 2) * (M + 1) = (d + 1) * (M + 1) + (M + 1) := by rw [show d + 2 = d + 1 + 1 from rfl, Nat.succ_mul]
                      omega)
theorem parts_size (M : Nat) : ∀ (d : Nat) (t : Tm), partsT M d t ≤ M → sizeT t = partsT M d t ∧ depthT t ≤ d
  | 0, _, h => by simp [partsT] at h; omega
  | d + 1, .mk n l, h => by
    have key : ∀ (l : List Tm) (n : Nat), l.foldl (fun n t => if M < n then n else n + partsT M d t) n ≤ M → l.foldl (fun n t => if M < n then n else n + partsT M d t) n = n + sizeL l ∧ depthL l ≤ d := by
      intro l
      induction l with
      | nil => intro n h; simp [sizeL, depthL]
      | cons t l ih =>
        intro n h
        rw [List.foldl_cons] at h ⊢
        by_cases c : M < n
        · rw [if_pos c, stuck M d l n c] at h
          omega
        · rw [if_neg c] at h ⊢
          obtain ⟨h1, h2⟩ := ih _ h
          obtain ⟨h3, h4⟩ := parts_size M d t (by omega)
          simp only [sizeL, depthL]
          omega
    simp only [partsT] at h ⊢
    obtain ⟨h1, h2⟩ := key l 1 h
    simp only [sizeT, depthT]
    omega
set_option maxRecDepth 100000 in
set_option maxHeartbeats 1600000 in
theorem parts_any (D : Nat) : ∀ (t : Tm) (B : Nat) (w : World) (sv : Value), D ≤ 40 → B ≤ w.heap.size → SlIn (· < B) w t.args sv →
    Calls Tryz.prog 32 #[.agg #[.string t.nm, sv], .int .i64 40, .int .i64 D] w fun e w' => e = .returned (.int .i64 (partsT 40 D t)) ∧ Gr w w' := by
  induction D with
  | zero =>
    intro t B w sv hD hB h
    obtain ⟨p, c, rfl, hn, hc, hm, hR⟩ := h.row
    clear hR h
    go_enter Tryz.func32, Tryz.ntmps32
    go_wp2_with fail
    go_ret
    exact ⟨rfl, Gr.alloc _ _⟩
  | succ D ih =>
    rintro ⟨n, l⟩ B w sv hD hB h
    dsimp only [Tm.args, Tm.nm] at h ⊢
    obtain ⟨p, c, rfl, hn, hc, hm, hR⟩ := h.row
    obtain ⟨E, hE⟩ : ∃ E : Int, E = ((D + 1 : Nat) : Int) := ⟨_, rfl⟩
    rw [← hE]
    have hE1 : 1 ≤ E := by omega
    have hE2 : E ≤ 40 := by omega
    have hE3 : (D : Int) = E - 1 := by omega
    have IH : Hid (∀ (t : Tm) (w : World) (v : Value), B ≤ w.heap.size → SlIn (· < B) w t.args v → Calls Tryz.prog 32 #[.agg #[.string t.nm, v], .int .i64 40, .int .i64 (E - 1)] w fun e w' => e = .returned (.int .i64 (partsT 40 D t)) ∧ Gr w w') :=
      Lib.hid (fun t w v hB h => by rw [← hE3]; exact ih t B w v (by omega) hB h)
    clear hE3 hE
    have NX := Lib.hid (upN_next 40 D l)
    have ST := Lib.hid (upN_stuck 40 D l)
    have PB : Hid (∀ t, partsT 40 D t ≤ 2000) := Lib.hid (fun t => by
      have h1 := parts_le 40 D t
      have h2 : (D + 1) * (40 + 1) ≤ 41 * 41 := Nat.mul_le_mul_right 41 (by omega)
      omega)
    have UB : Hid (∀ k, upN 40 D (l.take k) ≤ 2000) := Lib.hid (fun k => by
      have h1 : upN 40 D (l.take k) = partsT 40 (D + 1) (.mk n (l.take k)) := by simp only [partsT]; rfl
      have h2 := parts_le 40 (D + 1) (.mk n (l.take k))
      have h3 : (D + 1 + 1) * (40 + 1) ≤ 41 * 41 := Nat.mul_le_mul_right 41 (by omega)
      omega)
    have FL : Hid (upN 40 D (l.take l.length) = upN 40 D l) := Lib.hid (by simp)
    have RT : Hid (partsT 40 (D + 1) (.mk n l) = upN 40 D l) := Lib.hid (by simp only [partsT]; rfl)
    have U0 : Hid (upN 40 D (l.take 0) = 1) := Lib.hid (by simp [upN])
    have HB := Lib.hid hB
    have HR := Lib.hid hR
    generalize partsT 40 (D + 1) (.mk n l) = R at *
    generalize hm' : l.length = m at *
    have HM := Lib.hid hm'
    clear ih hR h hm' hn
    unfold maxLen at hm
    go_enter Tryz.func32, Tryz.ntmps32
    go_wp2_with fail
    go_loopw [7, 16] (fun d i wr => ∃ k : Nat, k ≤ m ∧ i = .int .i64 k ∧ d = .int .i64 (upN 40 D (l.take k)) ∧ Hid (Gr (w.alloc (.cells #[.string n, .slice p m c] 58)) wr)) (fun _ i _ => m - (intOf i).toNat)
    case atStart => exact ⟨0, Nat.zero_le _, rfl, by rw [U0.out]; rfl, Lib.hid (Gr.refl _)⟩
    case round =>
      obtain ⟨k, hk, rfl, rfl, hg⟩ := hrel
      have hd := UB.out k
      by_cases hlt : k < m
      · obtain ⟨t, b, o, q, d, ht, rfl, hb, c1, c2, hs, hts⟩ := (HR.out.gr ((Gr.alloc _ _).trans hg.out) HB.out) k (by rw [HM.out]; exact hlt)
        obtain ⟨b0, b1, _, _, hbl⟩ := (hg.out.has (Has.new w _ _)).two
        have n1 := NX.out k t ht
        have n2 := PB.out t
        by_cases hst : 40 < upN 40 D (l.take k)
        · have HF := Lib.hid (ST.out k hst)
          clear n1
          go_wp2_with fail
          go_ret
          exact ⟨ret_int (by rw [RT.out, HF.out]), (Gr.alloc _ _).trans hg.out⟩
        · rw [if_neg hst] at n1
          have HD := Lib.hid n1
          have HS := Lib.hid hs
          clear n1 ht hs
          have hst' : upN 40 D (l.take k) ≤ 40 := by omega
          go_wp2_with fail
          refine (IH.out _ _ _ (Nat.le_trans HB.out ((Gr.alloc _ _).trans hg.out).size) HS.out).mono ?_
          rintro e w' ⟨rfl, g2⟩
          have hg2 := Lib.hid (hg.out.trans g2)
          clear g2
          go_wp2_with fail
          go_roundw
          case rel => exact ⟨k + 1, by omega, by go_num, by rw [HD.out]; first | rfl | (congr 1; omega), hg2⟩
          case measure => simp [intOf]; omega
      · obtain rfl : k = m := by omega
        have HF := Lib.hid FL.out
        go_wp2_with fail
        go_ret
        exact ⟨ret_int (by rw [RT.out, HF.out]), (Gr.alloc _ _).trans hg.out⟩
theorem small_any (t : Tm) (B : Nat) (w : World) (sv : Value) (hB : B ≤ w.heap.size) (h : SlIn (· < B) w t.args sv) :
    Calls Tryz.prog 22 #[.agg #[.string t.nm, sv], .int .i64 40] w fun e w' => e = .returned (.bool (decide (partsT 40 40 t ≤ 40))) ∧ Gr w w' := by
  obtain ⟨p, c, rfl, hn, hc, hm, hR⟩ := h.row
  have HC : Hid (Calls Tryz.prog 32 #[.agg #[.string t.nm, .slice p t.args.length c], .int .i64 40, .int .i64 40] (w.alloc (.cells #[.string t.nm, .slice p t.args.length c] 58)) fun e w' => e = .returned (.int .i64 (partsT 40 40 t)) ∧ Gr (w.alloc (.cells #[.string t.nm, .slice p t.args.length c] 58)) w') :=
    Lib.hid (parts_any 40 t B _ _ (by omega) (Nat.le_trans hB (Gr.alloc _ _).size) (h.gr (Gr.alloc _ _) hB))
  clear hR h hn
  go_enter Tryz.func22, Tryz.ntmps22
  go_wp2_with fail
  refine HC.out.mono ?_
  rintro e w' ⟨rfl, g2⟩
  have hg2 := Lib.hid ((Gr.alloc _ _).trans g2)
  clear g2
  go_wp2_with fail
  go_ret
  exact ⟨ret_bool (by rw [Bool.eq_iff_iff]; simp; omega), hg2.out⟩
end TermS
end Go.Proofs.YtgbbpliihglijaaGreat
/- The contracts of the functions on bytes, of the code and of the reference, and of the reserved words (layer 1). No conditions. -/
namespace Go.Proofs.YtgbbpliihglijaaGreat
open Go Go.RowKit
namespace TermA
open Kit LexM
theorem lower_any (n : Int) (w : World) :
    Calls Tryz.prog 71 #[.int .u8 n] w fun e w' => e = .returned (.bool (loB n)) ∧ w = w' := by
  go_enter Tryz.func71, Tryz.ntmps71
  go_wp2
  all_goals
    go_ret
    exact ⟨ret_bool (by unfold loB; first | rfl | (rw [Bool.eq_iff_iff]; simp <;> omega) | (rw [Bool.eq_iff_iff]; simp [*])), rfl⟩
theorem upper_any (n : Int) (w : World) :
    Calls Tryz.prog 102 #[.int .u8 n] w fun e w' => e = .returned (.bool (upB n)) ∧ w = w' := by
  go_enter Tryz.func102, Tryz.ntmps102
  go_wp2
  all_goals
    go_ret
    exact ⟨ret_bool (by unfold upB; first | rfl | (rw [Bool.eq_iff_iff]; simp <;> omega) | (rw [Bool.eq_iff_iff]; simp [*])), rfl⟩
theorem digit_any (n : Int) (w : World) :
    Calls Tryz.prog 73 #[.int .u8 n] w fun e w' => e = .returned (.bool (dgB n)) ∧ w = w' := by
  go_enter Tryz.func73, Tryz.ntmps73
  go_wp2
  all_goals
    go_ret
    exact ⟨ret_bool (by unfold dgB; first | rfl | (rw [Bool.eq_iff_iff]; simp <;> omega) | (rw [Bool.eq_iff_iff]; simp [*])), rfl⟩
theorem rlower_any (n : Int) (w : World) :
    Calls Tryz.prog 93 #[.int .u8 n] w fun e w' => e = .returned (.bool (loB n)) ∧ w = w' := by
  go_enter Tryz.func93, Tryz.ntmps93
  go_wp2
  all_goals
    go_ret
    exact ⟨ret_bool (by unfold loB; first | rfl | (rw [Bool.eq_iff_iff]; simp <;> omega) | (rw [Bool.eq_iff_iff]; simp [*])), rfl⟩
theorem rupper_any (n : Int) (w : World) :
    Calls Tryz.prog 109 #[.int .u8 n] w fun e w' => e = .returned (.bool (upB n)) ∧ w = w' := by
  go_enter Tryz.func109, Tryz.ntmps109
  go_wp2
  all_goals
    go_ret
    exact ⟨ret_bool (by unfold upB; first | rfl | (rw [Bool.eq_iff_iff]; simp <;> omega) | (rw [Bool.eq_iff_iff]; simp [*])), rfl⟩
theorem rdigit_any (n : Int) (w : World) :
    Calls Tryz.prog 94 #[.int .u8 n] w fun e w' => e = .returned (.bool (dgB n)) ∧ w = w' := by
  go_enter Tryz.func94, Tryz.ntmps94
  go_wp2
  all_goals
    go_ret
    exact ⟨ret_bool (by unfold dgB; first | rfl | (rw [Bool.eq_iff_iff]; simp <;> omega) | (rw [Bool.eq_iff_iff]; simp [*])), rfl⟩
theorem res_any (s : ByteArray) (w : World) :
    Calls Tryz.prog 72 #[.string s] w fun e w' => e = .returned (.bool (resB s.data.toList)) ∧ w = w' := by
  have E := Lib.hid (ByteArray.toList_eq s)
  go_enter Tryz.func72, Tryz.ntmps72
  go_wp2
  all_goals
    go_ret
    exact ⟨ret_bool (by rw [← E.out]; simp [resB, *]), rfl⟩
end TermA
end Go.Proofs.YtgbbpliihglijaaGreat
/- The contracts of Name and Variable, of the code and of the reference. Condition: the string's length fits an int. -/
namespace Go.Proofs.YtgbbpliihglijaaGreat
open Go Go.RowKit
namespace TermB
open Kit LexM TermA
set_option maxHeartbeats 1600000 in
theorem name_any (s : ByteArray) (w : World) (hs : s.size ≤ 9223372036854775807) :
    Calls Tryz.prog 56 #[.string s] w fun e w' => e = .returned (.bool (nameL s.data.toList)) ∧ w = w' := by
  have E := Lib.hid (ByteArray.toList_eq s)
  by_cases h0 : s.size < 1
  · have H : Hid (nameL s.data.toList = false) := by
      have : s.data.toList = [] := by apply List.eq_nil_of_length_eq_zero; rw [len_eq]; omega
      rw [this]; exact rfl
    go_enter Tryz.func56, Tryz.ntmps56
    go_wp2_with (first | (go_at_call 71; refine (lower_any _ _).mono ?_; rintro e w' ⟨rfl, rfl⟩) | (go_at_call 73; refine (digit_any _ _).mono ?_; rintro e w' ⟨rfl, rfl⟩) | (go_at_call 72; refine (res_any _ _).mono ?_; rintro e w' ⟨rfl, rfl⟩))
    go_ret
    exact ⟨ret_bool H.out.symm, rfl⟩
  by_cases h1 : 16 < s.size
  · have H : Hid (nameL s.data.toList = false) := by
      unfold nameL; rw [decide_eq_false (by rw [len_eq]; omega)]; exact rfl
    go_enter Tryz.func56, Tryz.ntmps56
    go_wp2_with (first | (go_at_call 71; refine (lower_any _ _).mono ?_; rintro e w' ⟨rfl, rfl⟩) | (go_at_call 73; refine (digit_any _ _).mono ?_; rintro e w' ⟨rfl, rfl⟩) | (go_at_call 72; refine (res_any _ _).mono ?_; rintro e w' ⟨rfl, rfl⟩))
    go_ret
    exact ⟨ret_bool H.out.symm, rfl⟩
  have hp : 0 < s.size := by omega
  have hh := headB_eq loB s hp
  have hlen : decide (s.data.toList.length ≤ 16) = true := decide_eq_true (by rw [len_eq]; omega)
  cases h2 : loB s[0].toNat
  · have H : Hid (nameL s.data.toList = false) := by
      unfold nameL; rw [hh, h2, Bool.and_false]; exact rfl
    clear hh hlen
    go_enter Tryz.func56, Tryz.ntmps56
    go_wp2_with (first | (go_at_call 71; refine (lower_any _ _).mono ?_; rintro e w' ⟨rfl, rfl⟩) | (go_at_call 73; refine (digit_any _ _).mono ?_; rintro e w' ⟨rfl, rfl⟩) | (go_at_call 72; refine (res_any _ _).mono ?_; rintro e w' ⟨rfl, rfl⟩))
    go_ret
    exact ⟨ret_bool H.out.symm, rfl⟩
  cases h3 : resB s.data.toList
  case true =>
    have H : Hid (nameL s.data.toList = false) := by
      unfold nameL; rw [h3, Bool.not_true, Bool.and_false]; exact rfl
    clear hh hlen
    go_enter Tryz.func56, Tryz.ntmps56
    go_wp2_with (first | (go_at_call 71; refine (lower_any _ _).mono ?_; rintro e w' ⟨rfl, rfl⟩) | (go_at_call 73; refine (digit_any _ _).mono ?_; rintro e w' ⟨rfl, rfl⟩) | (go_at_call 72; refine (res_any _ _).mono ?_; rintro e w' ⟨rfl, rfl⟩))
    all_goals
      go_ret
      exact ⟨ret_bool H.out.symm, rfl⟩
  have H : Hid (nameL s.data.toList = allB nmB s.data.toList) := by
    unfold nameL; rw [hh, h2, h3, hlen]; exact rfl
  clear hh hlen
  go_enter Tryz.func56, Tryz.ntmps56
  go_wp2_with (first | (go_at_call 71; refine (lower_any _ _).mono ?_; rintro e w' ⟨rfl, rfl⟩) | (go_at_call 73; refine (digit_any _ _).mono ?_; rintro e w' ⟨rfl, rfl⟩) | (go_at_call 72; refine (res_any _ _).mono ?_; rintro e w' ⟨rfl, rfl⟩))
  go_loop [24] (fun i => ∃ k : Nat, k ≤ s.size ∧ i = .int .i64 k ∧ Hid (allB nmB (s.data.toList.take k) = true)) (fun i => s.size - (intOf i).toNat)
  case atStart => exact ⟨0, Nat.zero_le _, rfl, Lib.hid rfl⟩
  case round =>
    obtain ⟨k, hk, rfl, hA⟩ := hrel
    by_cases hlt : k < s.size
    · have hsn : Hid (allB nmB (s.data.toList.take (k + 1)) = nmB s[k].toNat) := by
        rw [take_snoc s k hlt, allB_snoc, hA.out]; exact rfl
      have hno := Lib.hid (allB_no nmB s k hlt)
      have hb : ∀ c, (s[k].toNat : Int) = c → nmB s[k].toNat = nmB c := fun c h => by rw [h]
      have hnm : Hid (nmB s[k].toNat = (loB s[k].toNat || dgB s[k].toNat || ((s[k].toNat : Int) == 45))) := rfl
      clear hb h2
      cases c1 : loB s[k].toNat
      · cases c2 : dgB s[k].toNat
        · cases c3 : ((s[k].toNat : Int) == 45)
          · have N : Hid (nmB s[k].toNat = false) := by rw [hnm.out, c1, c2, c3]; exact rfl
            have c4 : ((s[k].toNat : Int) != 45) = true := by rw [bne, c3]; rfl
            go_wp2_with (first | (go_at_call 71; refine (lower_any _ _).mono ?_; rintro e w' ⟨rfl, rfl⟩) | (go_at_call 73; refine (digit_any _ _).mono ?_; rintro e w' ⟨rfl, rfl⟩) | (go_at_call 72; refine (res_any _ _).mono ?_; rintro e w' ⟨rfl, rfl⟩))
            go_ret
            exact ⟨ret_bool (by rw [H.out, hno.out N.out]), rfl⟩
          · have N : Hid (nmB s[k].toNat = true) := by rw [hnm.out, c1, c2, c3]; exact rfl
            have c4 : ((s[k].toNat : Int) != 45) = false := by rw [bne, c3]; rfl
            go_wp2_with (first | (go_at_call 71; refine (lower_any _ _).mono ?_; rintro e w' ⟨rfl, rfl⟩) | (go_at_call 73; refine (digit_any _ _).mono ?_; rintro e w' ⟨rfl, rfl⟩) | (go_at_call 72; refine (res_any _ _).mono ?_; rintro e w' ⟨rfl, rfl⟩))
            go_round
            case rel => exact ⟨k + 1, by omega, by go_num, by rw [hsn.out]; exact N⟩
            case measure => simp [intOf]; omega
        · have N : Hid (nmB s[k].toNat = true) := by rw [hnm.out, c1, c2]; exact rfl
          go_wp2_with (first | (go_at_call 71; refine (lower_any _ _).mono ?_; rintro e w' ⟨rfl, rfl⟩) | (go_at_call 73; refine (digit_any _ _).mono ?_; rintro e w' ⟨rfl, rfl⟩) | (go_at_call 72; refine (res_any _ _).mono ?_; rintro e w' ⟨rfl, rfl⟩))
          go_round
          case rel => exact ⟨k + 1, by omega, by go_num, by rw [hsn.out]; exact N⟩
          case measure => simp [intOf]; omega
      · have N : Hid (nmB s[k].toNat = true) := by rw [hnm.out, c1]; exact rfl
        go_wp2_with (first | (go_at_call 71; refine (lower_any _ _).mono ?_; rintro e w' ⟨rfl, rfl⟩) | (go_at_call 73; refine (digit_any _ _).mono ?_; rintro e w' ⟨rfl, rfl⟩) | (go_at_call 72; refine (res_any _ _).mono ?_; rintro e w' ⟨rfl, rfl⟩))
        go_round
        case rel => exact ⟨k + 1, by omega, by go_num, by rw [hsn.out]; exact N⟩
        case measure => simp [intOf]; omega
    · have hx := allB_all nmB s k (by omega)
      rw [hA.out] at hx
      have HX := Lib.hid hx.symm
      clear hx
      go_wp2_with (first | (go_at_call 71; refine (lower_any _ _).mono ?_; rintro e w' ⟨rfl, rfl⟩) | (go_at_call 73; refine (digit_any _ _).mono ?_; rintro e w' ⟨rfl, rfl⟩) | (go_at_call 72; refine (res_any _ _).mono ?_; rintro e w' ⟨rfl, rfl⟩))
      go_ret
      exact ⟨ret_bool (by rw [H.out, HX.out]), rfl⟩
set_option maxHeartbeats 1600000 in
theorem rname_any (s : ByteArray) (w : World) (hs : s.size ≤ 9223372036854775807) :
    Calls Tryz.prog 82 #[.string s] w fun e w' => e = .returned (.bool (nameL s.data.toList)) ∧ w = w' := by
  have E := Lib.hid (ByteArray.toList_eq s)
  by_cases h0 : s.size < 1
  · have H : Hid (nameL s.data.toList = false) := by
      have : s.data.toList = [] := by apply List.eq_nil_of_length_eq_zero; rw [len_eq]; omega
      rw [this]; exact rfl
    go_enter Tryz.func82, Tryz.ntmps82
    go_wp2_with (first | (go_at_call 93; refine (rlower_any _ _).mono ?_; rintro e w' ⟨rfl, rfl⟩) | (go_at_call 94; refine (rdigit_any _ _).mono ?_; rintro e w' ⟨rfl, rfl⟩))
    go_ret
    exact ⟨ret_bool H.out.symm, rfl⟩
  by_cases h1 : 16 < s.size
  · have H : Hid (nameL s.data.toList = false) := by
      unfold nameL; rw [decide_eq_false (by rw [len_eq]; omega)]; exact rfl
    go_enter Tryz.func82, Tryz.ntmps82
    go_wp2_with (first | (go_at_call 93; refine (rlower_any _ _).mono ?_; rintro e w' ⟨rfl, rfl⟩) | (go_at_call 94; refine (rdigit_any _ _).mono ?_; rintro e w' ⟨rfl, rfl⟩))
    go_ret
    exact ⟨ret_bool H.out.symm, rfl⟩
  have hp : 0 < s.size := by omega
  have hh := headB_eq loB s hp
  have hlen : decide (s.data.toList.length ≤ 16) = true := decide_eq_true (by rw [len_eq]; omega)
  cases h2 : loB s[0].toNat
  · have H : Hid (nameL s.data.toList = false) := by
      unfold nameL; rw [hh, h2, Bool.and_false]; exact rfl
    clear hh hlen
    go_enter Tryz.func82, Tryz.ntmps82
    go_wp2_with (first | (go_at_call 93; refine (rlower_any _ _).mono ?_; rintro e w' ⟨rfl, rfl⟩) | (go_at_call 94; refine (rdigit_any _ _).mono ?_; rintro e w' ⟨rfl, rfl⟩))
    go_ret
    exact ⟨ret_bool H.out.symm, rfl⟩
  cases h3 : resB s.data.toList
  case true =>
    have H : Hid (nameL s.data.toList = false) := by
      unfold nameL; rw [h3, Bool.not_true, Bool.and_false]; exact rfl
    clear hh hlen
    have q := h3
    unfold resB at q
    rw [← E.out] at q
    clear h3
    cases q1 : (s.toList == [105, 102])
    all_goals cases q2 : (s.toList == [97, 110, 100])
    all_goals cases q3 : (s.toList == [110, 111, 116])
    all_goals rw [q1, q2, q3] at q
    all_goals first | (exact absurd q (by decide)) | skip
    all_goals clear q
    all_goals have p1 : (s.toList = [105, 102]) = ((s.toList == [105, 102]) = true) := by rw [beq_iff_eq]
    all_goals have p2 : (s.toList = [97, 110, 100]) = ((s.toList == [97, 110, 100]) = true) := by rw [beq_iff_eq]
    all_goals have p3 : (s.toList = [110, 111, 116]) = ((s.toList == [110, 111, 116]) = true) := by rw [beq_iff_eq]
    all_goals rw [q1] at p1
    all_goals rw [q2] at p2
    all_goals rw [q3] at p3
    all_goals simp at p1 p2 p3
    all_goals
      go_enter Tryz.func82, Tryz.ntmps82
      go_wp2_with (first | (go_at_call 93; refine (rlower_any _ _).mono ?_; rintro e w' ⟨rfl, rfl⟩) | (go_at_call 94; refine (rdigit_any _ _).mono ?_; rintro e w' ⟨rfl, rfl⟩))
      all_goals
        go_ret
        exact ⟨ret_bool H.out.symm, rfl⟩
  have H : Hid (nameL s.data.toList = allB nmB s.data.toList) := by
    unfold nameL; rw [hh, h2, h3, hlen]; exact rfl
  clear hh hlen
  have q := h3
  unfold resB at q
  rw [← E.out] at q
  simp only [Bool.or_eq_false_iff] at q
  obtain ⟨⟨q1, q2⟩, q3⟩ := q
  have p1 : ¬ s.toList = [105, 102] := by simpa using q1
  have p2 : ¬ s.toList = [97, 110, 100] := by simpa using q2
  have p3 : ¬ s.toList = [110, 111, 116] := by simpa using q3
  clear h3
  go_enter Tryz.func82, Tryz.ntmps82
  go_wp2_with (first | (go_at_call 93; refine (rlower_any _ _).mono ?_; rintro e w' ⟨rfl, rfl⟩) | (go_at_call 94; refine (rdigit_any _ _).mono ?_; rintro e w' ⟨rfl, rfl⟩))
  go_loop [32] (fun i => ∃ k : Nat, k ≤ s.size ∧ i = .int .i64 k ∧ Hid (allB nmB (s.data.toList.take k) = true)) (fun i => s.size - (intOf i).toNat)
  case atStart => exact ⟨0, Nat.zero_le _, rfl, Lib.hid rfl⟩
  case round =>
    obtain ⟨k, hk, rfl, hA⟩ := hrel
    by_cases hlt : k < s.size
    · have hsn : Hid (allB nmB (s.data.toList.take (k + 1)) = nmB s[k].toNat) := by
        rw [take_snoc s k hlt, allB_snoc, hA.out]; exact rfl
      have hno := Lib.hid (allB_no nmB s k hlt)
      have hb : ∀ c, (s[k].toNat : Int) = c → nmB s[k].toNat = nmB c := fun c h => by rw [h]
      have hnm : Hid (nmB s[k].toNat = (loB s[k].toNat || dgB s[k].toNat || ((s[k].toNat : Int) == 45))) := rfl
      clear hb h2
      cases c1 : loB s[k].toNat
      · cases c2 : dgB s[k].toNat
        · cases c3 : ((s[k].toNat : Int) == 45)
          · have N : Hid (nmB s[k].toNat = false) := by rw [hnm.out, c1, c2, c3]; exact rfl
            have c4 : ((s[k].toNat : Int) != 45) = true := by rw [bne, c3]; rfl
            go_wp2_with (first | (go_at_call 93; refine (rlower_any _ _).mono ?_; rintro e w' ⟨rfl, rfl⟩) | (go_at_call 94; refine (rdigit_any _ _).mono ?_; rintro e w' ⟨rfl, rfl⟩))
            go_ret
            exact ⟨ret_bool (by rw [H.out, hno.out N.out]), rfl⟩
          · have N : Hid (nmB s[k].toNat = true) := by rw [hnm.out, c1, c2, c3]; exact rfl
            have c4 : ((s[k].toNat : Int) != 45) = false := by rw [bne, c3]; rfl
            go_wp2_with (first | (go_at_call 93; refine (rlower_any _ _).mono ?_; rintro e w' ⟨rfl, rfl⟩) | (go_at_call 94; refine (rdigit_any _ _).mono ?_; rintro e w' ⟨rfl, rfl⟩))
            go_round
            case rel => exact ⟨k + 1, by omega, by go_num, by rw [hsn.out]; exact N⟩
            case measure => simp [intOf]; omega
        · have N : Hid (nmB s[k].toNat = true) := by rw [hnm.out, c1, c2]; exact rfl
          go_wp2_with (first | (go_at_call 93; refine (rlower_any _ _).mono ?_; rintro e w' ⟨rfl, rfl⟩) | (go_at_call 94; refine (rdigit_any _ _).mono ?_; rintro e w' ⟨rfl, rfl⟩))
          go_round
          case rel => exact ⟨k + 1, by omega, by go_num, by rw [hsn.out]; exact N⟩
          case measure => simp [intOf]; omega
      · have N : Hid (nmB s[k].toNat = true) := by rw [hnm.out, c1]; exact rfl
        go_wp2_with (first | (go_at_call 93; refine (rlower_any _ _).mono ?_; rintro e w' ⟨rfl, rfl⟩) | (go_at_call 94; refine (rdigit_any _ _).mono ?_; rintro e w' ⟨rfl, rfl⟩))
        go_round
        case rel => exact ⟨k + 1, by omega, by go_num, by rw [hsn.out]; exact N⟩
        case measure => simp [intOf]; omega
    · have hx := allB_all nmB s k (by omega)
      rw [hA.out] at hx
      have HX := Lib.hid hx.symm
      clear hx
      go_wp2_with (first | (go_at_call 93; refine (rlower_any _ _).mono ?_; rintro e w' ⟨rfl, rfl⟩) | (go_at_call 94; refine (rdigit_any _ _).mono ?_; rintro e w' ⟨rfl, rfl⟩))
      go_ret
      exact ⟨ret_bool (by rw [H.out, HX.out]), rfl⟩
end TermB
end Go.Proofs.YtgbbpliihglijaaGreat
/- The contracts of Variable and Number, of the code and of the reference. Condition: the string's length. -/
namespace Go.Proofs.YtgbbpliihglijaaGreat
open Go Go.RowKit
namespace TermC
open Kit LexM TermA
set_option maxHeartbeats 1600000 in
theorem var_any (s : ByteArray) (w : World) (hs : s.size ≤ 9223372036854775807) :
    Calls Tryz.prog 87 #[.string s] w fun e w' => e = .returned (.bool (varL s.data.toList)) ∧ w = w' := by
  by_cases h0 : s.size < 1
  · have H : Hid (varL s.data.toList = false) := by
      have : s.data.toList = [] := by apply List.eq_nil_of_length_eq_zero; rw [len_eq]; omega
      rw [this]; exact rfl
    go_enter Tryz.func87, Tryz.ntmps87
    go_wp2_with (first | (go_at_call 71; refine (lower_any _ _).mono ?_; rintro e w' ⟨rfl, rfl⟩) | (go_at_call 102; refine (upper_any _ _).mono ?_; rintro e w' ⟨rfl, rfl⟩) | (go_at_call 73; refine (digit_any _ _).mono ?_; rintro e w' ⟨rfl, rfl⟩))
    go_ret
    exact ⟨ret_bool H.out.symm, rfl⟩
  by_cases h1 : 16 < s.size
  · have H : Hid (varL s.data.toList = false) := by
      unfold varL; rw [decide_eq_false (by rw [len_eq]; omega)]; exact rfl
    go_enter Tryz.func87, Tryz.ntmps87
    go_wp2_with (first | (go_at_call 71; refine (lower_any _ _).mono ?_; rintro e w' ⟨rfl, rfl⟩) | (go_at_call 102; refine (upper_any _ _).mono ?_; rintro e w' ⟨rfl, rfl⟩) | (go_at_call 73; refine (digit_any _ _).mono ?_; rintro e w' ⟨rfl, rfl⟩))
    go_ret
    exact ⟨ret_bool H.out.symm, rfl⟩
  have hp : 0 < s.size := by omega
  have hh := headB_eq upB s hp
  have hlen : decide (s.data.toList.length ≤ 16) = true := decide_eq_true (by rw [len_eq]; omega)
  cases h2 : upB s[0].toNat
  · have H : Hid (varL s.data.toList = false) := by
      unfold varL; rw [hh, h2, Bool.and_false]; exact rfl
    clear hh hlen
    go_enter Tryz.func87, Tryz.ntmps87
    go_wp2_with (first | (go_at_call 71; refine (lower_any _ _).mono ?_; rintro e w' ⟨rfl, rfl⟩) | (go_at_call 102; refine (upper_any _ _).mono ?_; rintro e w' ⟨rfl, rfl⟩) | (go_at_call 73; refine (digit_any _ _).mono ?_; rintro e w' ⟨rfl, rfl⟩))
    go_ret
    exact ⟨ret_bool H.out.symm, rfl⟩
  have H : Hid (varL s.data.toList = allB vrB s.data.toList) := by
    unfold varL; rw [hh, h2, hlen]; exact rfl
  clear hh hlen
  go_enter Tryz.func87, Tryz.ntmps87
  go_wp2_with (first | (go_at_call 71; refine (lower_any _ _).mono ?_; rintro e w' ⟨rfl, rfl⟩) | (go_at_call 102; refine (upper_any _ _).mono ?_; rintro e w' ⟨rfl, rfl⟩) | (go_at_call 73; refine (digit_any _ _).mono ?_; rintro e w' ⟨rfl, rfl⟩))
  go_loop [20] (fun i => ∃ k : Nat, k ≤ s.size ∧ i = .int .i64 k ∧ Hid (allB vrB (s.data.toList.take k) = true)) (fun i => s.size - (intOf i).toNat)
  case atStart => exact ⟨0, Nat.zero_le _, rfl, Lib.hid rfl⟩
  case round =>
    obtain ⟨k, hk, rfl, hA⟩ := hrel
    by_cases hlt : k < s.size
    · have hsn : Hid (allB vrB (s.data.toList.take (k + 1)) = vrB s[k].toNat) := by
        rw [take_snoc s k hlt, allB_snoc, hA.out]; exact rfl
      have hno := Lib.hid (allB_no vrB s k hlt)
      have hnm : Hid (vrB s[k].toNat = (loB s[k].toNat || upB s[k].toNat || dgB s[k].toNat)) := rfl
      clear h2
      cases c1 : loB s[k].toNat
      · cases c2 : upB s[k].toNat
        · cases c3 : dgB s[k].toNat
          · have N : Hid (vrB s[k].toNat = false) := by rw [hnm.out, c1, c2, c3]; exact rfl
            go_wp2_with (first | (go_at_call 71; refine (lower_any _ _).mono ?_; rintro e w' ⟨rfl, rfl⟩) | (go_at_call 102; refine (upper_any _ _).mono ?_; rintro e w' ⟨rfl, rfl⟩) | (go_at_call 73; refine (digit_any _ _).mono ?_; rintro e w' ⟨rfl, rfl⟩))
            go_ret
            exact ⟨ret_bool (by rw [H.out, hno.out N.out]), rfl⟩
          · have N : Hid (vrB s[k].toNat = true) := by rw [hnm.out, c1, c2, c3]; exact rfl
            go_wp2_with (first | (go_at_call 71; refine (lower_any _ _).mono ?_; rintro e w' ⟨rfl, rfl⟩) | (go_at_call 102; refine (upper_any _ _).mono ?_; rintro e w' ⟨rfl, rfl⟩) | (go_at_call 73; refine (digit_any _ _).mono ?_; rintro e w' ⟨rfl, rfl⟩))
            go_round
            case rel => exact ⟨k + 1, by omega, by go_num, by rw [hsn.out]; exact N⟩
            case measure => simp [intOf]; omega
        · have N : Hid (vrB s[k].toNat = true) := by rw [hnm.out, c1, c2]; exact rfl
          go_wp2_with (first | (go_at_call 71; refine (lower_any _ _).mono ?_; rintro e w' ⟨rfl, rfl⟩) | (go_at_call 102; refine (upper_any _ _).mono ?_; rintro e w' ⟨rfl, rfl⟩) | (go_at_call 73; refine (digit_any _ _).mono ?_; rintro e w' ⟨rfl, rfl⟩))
          go_round
          case rel => exact ⟨k + 1, by omega, by go_num, by rw [hsn.out]; exact N⟩
          case measure => simp [intOf]; omega
      · have N : Hid (vrB s[k].toNat = true) := by rw [hnm.out, c1]; exact rfl
        go_wp2_with (first | (go_at_call 71; refine (lower_any _ _).mono ?_; rintro e w' ⟨rfl, rfl⟩) | (go_at_call 102; refine (upper_any _ _).mono ?_; rintro e w' ⟨rfl, rfl⟩) | (go_at_call 73; refine (digit_any _ _).mono ?_; rintro e w' ⟨rfl, rfl⟩))
        go_round
        case rel => exact ⟨k + 1, by omega, by go_num, by rw [hsn.out]; exact N⟩
        case measure => simp [intOf]; omega
    · have hx := allB_all vrB s k (by omega)
      rw [hA.out] at hx
      have HX := Lib.hid hx.symm
      clear hx
      go_wp2_with (first | (go_at_call 71; refine (lower_any _ _).mono ?_; rintro e w' ⟨rfl, rfl⟩) | (go_at_call 102; refine (upper_any _ _).mono ?_; rintro e w' ⟨rfl, rfl⟩) | (go_at_call 73; refine (digit_any _ _).mono ?_; rintro e w' ⟨rfl, rfl⟩))
      go_ret
      exact ⟨ret_bool (by rw [H.out, HX.out]), rfl⟩
set_option maxHeartbeats 1600000 in
theorem rvar_any (s : ByteArray) (w : World) (hs : s.size ≤ 9223372036854775807) :
    Calls Tryz.prog 107 #[.string s] w fun e w' => e = .returned (.bool (varL s.data.toList)) ∧ w = w' := by
  by_cases h0 : s.size < 1
  · have H : Hid (varL s.data.toList = false) := by
      have : s.data.toList = [] := by apply List.eq_nil_of_length_eq_zero; rw [len_eq]; omega
      rw [this]; exact rfl
    go_enter Tryz.func107, Tryz.ntmps107
    go_wp2_with (first | (go_at_call 93; refine (rlower_any _ _).mono ?_; rintro e w' ⟨rfl, rfl⟩) | (go_at_call 109; refine (rupper_any _ _).mono ?_; rintro e w' ⟨rfl, rfl⟩) | (go_at_call 94; refine (rdigit_any _ _).mono ?_; rintro e w' ⟨rfl, rfl⟩))
    go_ret
    exact ⟨ret_bool H.out.symm, rfl⟩
  by_cases h1 : 16 < s.size
  · have H : Hid (varL s.data.toList = false) := by
      unfold varL; rw [decide_eq_false (by rw [len_eq]; omega)]; exact rfl
    go_enter Tryz.func107, Tryz.ntmps107
    go_wp2_with (first | (go_at_call 93; refine (rlower_any _ _).mono ?_; rintro e w' ⟨rfl, rfl⟩) | (go_at_call 109; refine (rupper_any _ _).mono ?_; rintro e w' ⟨rfl, rfl⟩) | (go_at_call 94; refine (rdigit_any _ _).mono ?_; rintro e w' ⟨rfl, rfl⟩))
    go_ret
    exact ⟨ret_bool H.out.symm, rfl⟩
  have hp : 0 < s.size := by omega
  have hh := headB_eq upB s hp
  have hlen : decide (s.data.toList.length ≤ 16) = true := decide_eq_true (by rw [len_eq]; omega)
  cases h2 : upB s[0].toNat
  · have H : Hid (varL s.data.toList = false) := by
      unfold varL; rw [hh, h2, Bool.and_false]; exact rfl
    clear hh hlen
    go_enter Tryz.func107, Tryz.ntmps107
    go_wp2_with (first | (go_at_call 93; refine (rlower_any _ _).mono ?_; rintro e w' ⟨rfl, rfl⟩) | (go_at_call 109; refine (rupper_any _ _).mono ?_; rintro e w' ⟨rfl, rfl⟩) | (go_at_call 94; refine (rdigit_any _ _).mono ?_; rintro e w' ⟨rfl, rfl⟩))
    go_ret
    exact ⟨ret_bool H.out.symm, rfl⟩
  have H : Hid (varL s.data.toList = allB vrB s.data.toList) := by
    unfold varL; rw [hh, h2, hlen]; exact rfl
  clear hh hlen
  go_enter Tryz.func107, Tryz.ntmps107
  go_wp2_with (first | (go_at_call 93; refine (rlower_any _ _).mono ?_; rintro e w' ⟨rfl, rfl⟩) | (go_at_call 109; refine (rupper_any _ _).mono ?_; rintro e w' ⟨rfl, rfl⟩) | (go_at_call 94; refine (rdigit_any _ _).mono ?_; rintro e w' ⟨rfl, rfl⟩))
  go_loop [20] (fun i => ∃ k : Nat, k ≤ s.size ∧ i = .int .i64 k ∧ Hid (allB vrB (s.data.toList.take k) = true)) (fun i => s.size - (intOf i).toNat)
  case atStart => exact ⟨0, Nat.zero_le _, rfl, Lib.hid rfl⟩
  case round =>
    obtain ⟨k, hk, rfl, hA⟩ := hrel
    by_cases hlt : k < s.size
    · have hsn : Hid (allB vrB (s.data.toList.take (k + 1)) = vrB s[k].toNat) := by
        rw [take_snoc s k hlt, allB_snoc, hA.out]; exact rfl
      have hno := Lib.hid (allB_no vrB s k hlt)
      have hnm : Hid (vrB s[k].toNat = (loB s[k].toNat || upB s[k].toNat || dgB s[k].toNat)) := rfl
      clear h2
      cases c1 : loB s[k].toNat
      · cases c2 : upB s[k].toNat
        · cases c3 : dgB s[k].toNat
          · have N : Hid (vrB s[k].toNat = false) := by rw [hnm.out, c1, c2, c3]; exact rfl
            go_wp2_with (first | (go_at_call 93; refine (rlower_any _ _).mono ?_; rintro e w' ⟨rfl, rfl⟩) | (go_at_call 109; refine (rupper_any _ _).mono ?_; rintro e w' ⟨rfl, rfl⟩) | (go_at_call 94; refine (rdigit_any _ _).mono ?_; rintro e w' ⟨rfl, rfl⟩))
            go_ret
            exact ⟨ret_bool (by rw [H.out, hno.out N.out]), rfl⟩
          · have N : Hid (vrB s[k].toNat = true) := by rw [hnm.out, c1, c2, c3]; exact rfl
            go_wp2_with (first | (go_at_call 93; refine (rlower_any _ _).mono ?_; rintro e w' ⟨rfl, rfl⟩) | (go_at_call 109; refine (rupper_any _ _).mono ?_; rintro e w' ⟨rfl, rfl⟩) | (go_at_call 94; refine (rdigit_any _ _).mono ?_; rintro e w' ⟨rfl, rfl⟩))
            go_round
            case rel => exact ⟨k + 1, by omega, by go_num, by rw [hsn.out]; exact N⟩
            case measure => simp [intOf]; omega
        · have N : Hid (vrB s[k].toNat = true) := by rw [hnm.out, c1, c2]; exact rfl
          go_wp2_with (first | (go_at_call 93; refine (rlower_any _ _).mono ?_; rintro e w' ⟨rfl, rfl⟩) | (go_at_call 109; refine (rupper_any _ _).mono ?_; rintro e w' ⟨rfl, rfl⟩) | (go_at_call 94; refine (rdigit_any _ _).mono ?_; rintro e w' ⟨rfl, rfl⟩))
          go_round
          case rel => exact ⟨k + 1, by omega, by go_num, by rw [hsn.out]; exact N⟩
          case measure => simp [intOf]; omega
      · have N : Hid (vrB s[k].toNat = true) := by rw [hnm.out, c1]; exact rfl
        go_wp2_with (first | (go_at_call 93; refine (rlower_any _ _).mono ?_; rintro e w' ⟨rfl, rfl⟩) | (go_at_call 109; refine (rupper_any _ _).mono ?_; rintro e w' ⟨rfl, rfl⟩) | (go_at_call 94; refine (rdigit_any _ _).mono ?_; rintro e w' ⟨rfl, rfl⟩))
        go_round
        case rel => exact ⟨k + 1, by omega, by go_num, by rw [hsn.out]; exact N⟩
        case measure => simp [intOf]; omega
    · have hx := allB_all vrB s k (by omega)
      rw [hA.out] at hx
      have HX := Lib.hid hx.symm
      clear hx
      go_wp2_with (first | (go_at_call 93; refine (rlower_any _ _).mono ?_; rintro e w' ⟨rfl, rfl⟩) | (go_at_call 109; refine (rupper_any _ _).mono ?_; rintro e w' ⟨rfl, rfl⟩) | (go_at_call 94; refine (rdigit_any _ _).mono ?_; rintro e w' ⟨rfl, rfl⟩))
      go_ret
      exact ⟨ret_bool (by rw [H.out, HX.out]), rfl⟩
end TermC
end Go.Proofs.YtgbbpliihglijaaGreat
