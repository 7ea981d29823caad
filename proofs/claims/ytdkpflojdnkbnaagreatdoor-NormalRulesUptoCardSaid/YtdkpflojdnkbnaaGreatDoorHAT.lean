/- Texts laid together: UnmB; Sm20; RdM; RdA; RdB; RdL; RdC. Their own heads stand before each. -/
import Derived.Test.YtdkpflojdnkbnaaGreatDoorHAG
import Derived.Deep.LoopGhost
import Derived.Test.YtdkpflojdnkbnaaGreatDoorHAB
import Derived.Test.YtdkpflojdnkbnaaGreatDoorHAJ
import Derived.Deep.RegionWith
import Derived.BigQuiet
import Derived.Deep.RegionHeld3
import Derived.Deep.DeepCutAuto
import Derived.Test.YtdkpflojdnkbnaaGreatDoorHAA
import Derived.Test.YtdkpflojdnkbnaaGreatDoorHAE
import Derived.Deep.QuietTactic
import Derived.Still
/- leads and leader of the code's classes. Conditions: the map's terms have texts of at most a million bytes; the variable nameEnds holds its bytes. -/
namespace Go.Proofs.YtdkpflojdnkbnaaGreatDoor
open Go Go.RowKit Go.Maps Go.WideMaps
namespace UnmB
open LexM TermM TermI Kit TermN TermU UniM UniG UniL UniD TermT UnmA
theorem put_agg {w : World} {g : Nat} {a b : Value} (h : Has w g #[a, b]) (u v : Value) : Has ((w.setCell ⟨g, 0, none⟩ u).setCell ⟨g, 1, none⟩ v) g #[u, v] := (h.set 0 u).set 1 v
end UnmB
end Go.Proofs.YtdkpflojdnkbnaaGreatDoor
/- Small terms at the bound 20. Made by gensmall.py. No conditions. -/
namespace Go.Proofs.YtdkpflojdnkbnaaGreatDoor
open Go Go.RowKit
namespace Sm20
open LexM TermM TermI Kit TermN TermS UniK UniM UniA
set_option maxRecDepth 100000 in
set_option maxHeartbeats 1600000 in
theorem parts_any (D : Nat) : ∀ (t : Tm) (B : Nat) (w : World) (sv : Value), D ≤ 20 → B ≤ w.heap.size → SlIn (· < B) w t.args sv →
    Calls Tryz.prog 81 #[.agg #[.string t.nm, sv], .int .i64 20, .int .i64 D] w fun e w' => e = .returned (.int .i64 (partsT 20 D t)) ∧ Gr w w' := by
  induction D with
  | zero =>
    intro t B w sv hD hB h
    obtain ⟨p, c, rfl, hn, hc, hm, hR⟩ := h.row
    clear hR h
    go_enter Tryz.func81, Tryz.ntmps81
    go_wp2_with fail
    go_ret
    exact ⟨rfl, Gr.alloc _ _⟩
  | succ D ih =>
    rintro ⟨n, l⟩ B w sv hD hB h
    dsimp only [Tm.args, Tm.nm] at h ⊢
    obtain ⟨p, c, rfl, hn, hc, hm, hR⟩ := h.row
    obtain ⟨E, hE⟩ : ∃ E : Int, E = ((D + 1 : Nat) : Int) := ⟨_, rfl⟩
    rw [← hE]
    have hE1 : 1 ≤ E := by omega
    have hE2 : E ≤ 20 := by omega
    have hE3 : (D : Int) = E - 1 := by omega
    have IH : Hid (∀ (t : Tm) (w : World) (v : Value), B ≤ w.heap.size → SlIn (· < B) w t.args v → Calls Tryz.prog 81 #[.agg #[.string t.nm, v], .int .i64 20, .int .i64 (E - 1)] w fun e w' => e = .returned (.int .i64 (partsT 20 D t)) ∧ Gr w w') :=
      Lib.hid (fun t w v hB h => by rw [← hE3]; exact ih t B w v (by omega) hB h)
    clear hE3 hE
    have NX := Lib.hid (upN_next 20 D l)
    have ST := Lib.hid (upN_stuck 20 D l)
    have PB : Hid (∀ t, partsT 20 D t ≤ 20000) := Lib.hid (fun t => by
      have h1 := parts_le 20 D t
      have h2 : (D + 1) * (20 + 1) ≤ 21 * 22 := Nat.le_trans (Nat.mul_le_mul_right 21 (show _ ≤ 22 by omega)) (by decide)
      omega)
    have UB : Hid (∀ k, upN 20 D (l.take k) ≤ 20000) := Lib.hid (fun k => by
      have h1 : upN 20 D (l.take k) = partsT 20 (D + 1) (.mk n (l.take k)) := by simp only [partsT]; rfl
      have h2 := parts_le 20 (D + 1) (.mk n (l.take k))
      have h3 : (D + 1 + 1) * (20 + 1) ≤ 21 * 22 := Nat.le_trans (Nat.mul_le_mul_right 21 (show _ ≤ 22 by omega)) (by decide)
      omega)
    have FL : Hid (upN 20 D (l.take l.length) = upN 20 D l) := Lib.hid (by simp)
    have RT : Hid (partsT 20 (D + 1) (.mk n l) = upN 20 D l) := Lib.hid (by simp only [partsT]; rfl)
    have U0 : Hid (upN 20 D (l.take 0) = 1) := Lib.hid (by simp [upN])
    have HB := Lib.hid hB
    have HR := Lib.hid hR
    generalize partsT 20 (D + 1) (.mk n l) = R at *
    generalize hm' : l.length = m at *
    have HM := Lib.hid hm'
    clear ih hR h hm' hn
    unfold maxLen at hm
    go_enter Tryz.func81, Tryz.ntmps81
    go_wp2_with fail
    go_loopw [7, 16] (fun d i wr => ∃ k : Nat, k ≤ m ∧ i = .int .i64 k ∧ d = .int .i64 (upN 20 D (l.take k)) ∧ Hid (Gr (w.alloc (.cells #[.string n, .slice p m c] 24)) wr)) (fun _ i _ => m - (intOf i).toNat)
    case atStart => exact ⟨0, Nat.zero_le _, rfl, by rw [U0.out]; rfl, Lib.hid (Gr.refl _)⟩
    case round =>
      obtain ⟨k, hk, rfl, rfl, hg⟩ := hrel
      have hd := UB.out k
      by_cases hlt : k < m
      · obtain ⟨t, b, o, q, d, ht, rfl, hb, c1, c2, hs, hts⟩ := (HR.out.gr ((Gr.alloc _ _).trans hg.out) HB.out) k (by rw [HM.out]; exact hlt)
        obtain ⟨b0, b1, _, _, hbl⟩ := (hg.out.has (Has.new w _ _)).two
        have n1 := NX.out k t ht
        have n2 := PB.out t
        by_cases hst : 20 < upN 20 D (l.take k)
        · have HF := Lib.hid (ST.out k hst)
          clear n1
          go_wp2_with fail
          go_ret
          exact ⟨ret_int (by rw [RT.out, HF.out]), (Gr.alloc _ _).trans hg.out⟩
        · rw [if_neg hst] at n1
          have HD := Lib.hid n1
          have HS := Lib.hid hs
          clear n1 ht hs
          have hst' : upN 20 D (l.take k) ≤ 20 := by omega
          go_wp2_with fail
          refine (IH.out _ _ _ (Nat.le_trans HB.out ((Gr.alloc _ _).trans hg.out).size) HS.out).mono ?_
          rintro e w' ⟨rfl, g2⟩
          have hg2 := Lib.hid (hg.out.trans g2)
          clear g2
          go_wp2_with fail
          go_roundw
          case rel => exact ⟨k + 1, by omega, by go_num, by rw [HD.out]; first | rfl | (congr 1; omega), hg2⟩
          case measure => simp [intOf]; omega
      · obtain rfl : k = m := by omega
        have HF := Lib.hid FL.out
        go_wp2_with fail
        go_ret
        exact ⟨ret_int (by rw [RT.out, HF.out]), (Gr.alloc _ _).trans hg.out⟩
theorem small_any (t : Tm) (B : Nat) (w : World) (sv : Value) (hB : B ≤ w.heap.size) (h : SlIn (· < B) w t.args sv) :
    Calls Tryz.prog 46 #[.agg #[.string t.nm, sv], .int .i64 20] w fun e w' => e = .returned (.bool (decide (partsT 20 20 t ≤ 20))) ∧ Gr w w' := by
  obtain ⟨p, c, rfl, hn, hc, hm, hR⟩ := h.row
  have HC : Hid (Calls Tryz.prog 81 #[.agg #[.string t.nm, .slice p t.args.length c], .int .i64 20, .int .i64 20] (w.alloc (.cells #[.string t.nm, .slice p t.args.length c] 24)) fun e w' => e = .returned (.int .i64 (partsT 20 20 t)) ∧ Gr (w.alloc (.cells #[.string t.nm, .slice p t.args.length c] 24)) w') :=
    Lib.hid (parts_any 20 t B _ _ (by omega) (Nat.le_trans hB (Gr.alloc _ _).size) (h.gr (Gr.alloc _ _) hB))
  clear hR h hn
  go_enter Tryz.func46, Tryz.ntmps46
  go_wp2_with fail
  refine HC.out.mono ?_
  rintro e w' ⟨rfl, g2⟩
  have hg2 := Lib.hid ((Gr.alloc _ _).trans g2)
  clear g2
  go_wp2_with fail
  go_ret
  exact ⟨ret_bool (by rw [Bool.eq_iff_iff]; simp; omega), hg2.out⟩
end Sm20
end Go.Proofs.YtdkpflojdnkbnaaGreatDoor
/- gameplayerplain's reader as plain functions over what is left of the text. No conditions. -/
namespace Go.Proofs.YtdkpflojdnkbnaaGreatDoor
open Go
namespace RdM
open LexM TermM
def bl (c : UInt8) : Bool := c == 32 || c == 10
def wd (c : UInt8) : Bool := c == 45 || (48 ≤ c && c ≤ 57 || (97 ≤ c && c ≤ 122 || 65 ≤ c && c ≤ 90))
def blankL (l : List UInt8) : List UInt8 := l.dropWhile bl
def wordL (l : List UInt8) : List UInt8 × List UInt8 := ((blankL l).takeWhile wd, (blankL l).dropWhile wd)
def signL (c : UInt8) (l : List UInt8) : Bool × List UInt8 := match blankL l with
  | x :: r => if x = c then (true, r) else (false, x :: r)
  | [] => (false, [])
def bs (l : List UInt8) : ByteArray := ⟨l.toArray⟩
mutual
/-- The rest of a term that begins with a word. -/
def termL : Nat → List UInt8 → List UInt8 → Tm × List UInt8
  | 0, n, l => (.mk (bs n) [], l)
  | f + 1, n, l => if (signL 40 l).1 then (.mk (bs n) (argsL f (signL 40 l).2).1, (signL 41 (argsL f (signL 40 l).2).2).2) else (.mk (bs n) [], (signL 40 l).2)
def argsL : Nat → List UInt8 → List Tm × List UInt8
  | 0, l => ([], l)
  | f + 1, l => if l.isEmpty then ([], l) else
    if (signL 44 (termL f (wordL l).1 (wordL l).2).2).1 then ((termL f (wordL l).1 (wordL l).2).1 :: (argsL f (signL 44 (termL f (wordL l).1 (wordL l).2).2).2).1, (argsL f (signL 44 (termL f (wordL l).1 (wordL l).2).2).2).2)
    else ([(termL f (wordL l).1 (wordL l).2).1], (signL 44 (termL f (wordL l).1 (wordL l).2).2).2)
end
def term (n l : List UInt8) : Tm × List UInt8 := termL (2 * l.length + 1) n l
/-- The literals of a body. -/
def bodyL : Nat → List UInt8 → List (Bool × Tm) × List UInt8
  | 0, l => ([], l)
  | f + 1, l => if l.isEmpty then ([], l) else if (signL 46 l).1 then ([], (signL 46 l).2) else
    let w1 := wordL (wordL (signL 46 l).2).2
    let not := w1.1 == [110, 111, 116]
    let w := if not then wordL w1.2 else w1
    if w.1.isEmpty then ([], w.2) else
    let t := term w.1 w.2
    let r := bodyL f t.2
    ((not, t.1) :: r.1, r.2)
def rule (n l : List UInt8) : (Tm × List (Bool × Tm)) × List UInt8 :=
  let t := term n l
  let b := bodyL (t.2.length + 1) t.2
  ((t.1, b.1), b.2)
def rulesL : Nat → List UInt8 → List (Tm × List (Bool × Tm))
  | 0, _ => []
  | f + 1, l => if (wordL l).1.isEmpty then [] else (rule (wordL l).1 (wordL l).2).1 :: rulesL f (rule (wordL l).1 (wordL l).2).2
/-- The rules of a trusted description. -/
def read (s : List UInt8) : List (Tm × List (Bool × Tm)) := rulesL (s.length + 1) s
def atom (s : List UInt8) : Tm := (term (wordL s).1 (wordL s).2).1
def atomsL : Nat → List UInt8 → List Tm
  | 0, _ => []
  | f + 1, l => if l.isEmpty then [] else
    let t := term (wordL l).1 (wordL l).2
    if (signL 44 t.2).1 then t.1 :: atomsL f (signL 44 t.2).2 else [t.1]
def atoms (s : List UInt8) : List Tm := atomsL (s.length + 1) s
/-! ### Lengths -/
theorem blank_len (l : List UInt8) : (blankL l).length ≤ l.length := (List.dropWhile_suffix _).length_le
theorem word_split (l : List UInt8) : (wordL l).1 ++ (wordL l).2 = blankL l := List.takeWhile_append_dropWhile
theorem word_len (l : List UInt8) : (wordL l).1.length + (wordL l).2.length ≤ l.length := by
  have h := congrArg List.length (word_split l)
  rw [List.length_append] at h
  have := blank_len l
  omega
theorem sign_len (c : UInt8) (l : List UInt8) : (signL c l).2.length + (if (signL c l).1 then 1 else 0) ≤ l.length := by
  have := blank_len l
  unfold signL
  cases h : blankL l with
  | nil => simp
  | cons x r =>
    rw [h, List.length_cons] at this
    by_cases e : x = c
    · simp [e]; omega
    · simp [e]; omega
theorem sign_yes {c : UInt8} {l : List UInt8} (h : (signL c l).1 = true) : (signL c l).2.length + 1 ≤ l.length := by
  have := sign_len c l
  rw [if_pos h] at this
  exact this
theorem sign_le (c : UInt8) (l : List UInt8) : (signL c l).2.length ≤ l.length := by
  have := sign_len c l
  omega
theorem term_len : ∀ f, (∀ n l, (termL f n l).2.length ≤ l.length) ∧ ∀ l, (argsL f l).2.length ≤ l.length
  | 0 => ⟨fun _ _ => Nat.le_refl _, fun _ => Nat.le_refl _⟩
  | f + 1 => by
    obtain ⟨h1, h2⟩ := term_len f
    refine ⟨fun n l => ?_, fun l => ?_⟩
    · rw [termL]
      have a := sign_le 40 l
      split
      · have b := h2 (signL 40 l).2
        have c := sign_le 41 (argsL f (signL 40 l).2).2
        dsimp only
        omega
      · exact a
    · rw [argsL]
      have a := word_len l
      have b := h1 (wordL l).1 (wordL l).2
      have c := sign_le 44 (termL f (wordL l).1 (wordL l).2).2
      split
      · exact Nat.le_refl _
      · split
        · have d := h2 (signL 44 (termL f (wordL l).1 (wordL l).2).2).2
          dsimp only
          omega
        · dsimp only
          omega
theorem term_le (n l : List UInt8) : (term n l).2.length ≤ l.length := (term_len _).1 n l
/-- Fuel enough is enough. -/
theorem fuel : ∀ f, (∀ n l g, 2 * l.length + 1 ≤ f → f ≤ g → termL g n l = termL f n l) ∧ ∀ l g, 2 * l.length + 2 ≤ f → f ≤ g → argsL g l = argsL f l
  | 0 => ⟨fun _ _ _ h => by omega, fun _ _ h => by omega⟩
  | f + 1 => by
    obtain ⟨h1, h2⟩ := fuel f
    refine ⟨fun n l g hl hg => ?_, fun l g hl hg => ?_⟩
    · obtain ⟨g, rfl⟩ : ∃ k, g = k + 1 := ⟨g - 1, by omega⟩
      rw [termL, termL]
      by_cases hs : (signL 40 l).1 = true
      · have := sign_yes hs
        rw [if_pos hs, if_pos hs, h2 (signL 40 l).2 g (by omega) (by omega)]
      · rw [if_neg hs, if_neg hs]
    · obtain ⟨g, rfl⟩ : ∃ k, g = k + 1 := ⟨g - 1, by omega⟩
      rw [argsL, argsL]
      have a := word_len l
      have e := h1 (wordL l).1 (wordL l).2 g (by omega) (by omega)
      rw [e]
      have b := (term_len f).1 (wordL l).1 (wordL l).2
      by_cases hs : (signL 44 (termL f (wordL l).1 (wordL l).2).2).1 = true
      · have := sign_yes hs
        rw [if_pos hs, if_pos hs, h2 _ g (by omega) (by omega)]
      · rw [if_neg hs, if_neg hs]
theorem term_any (n l : List UInt8) {f : Nat} (h : 2 * l.length + 1 ≤ f) : termL f n l = term n l := (fuel _).1 n l f (Nat.le_refl _) h
end RdM
end Go.Proofs.YtdkpflojdnkbnaaGreatDoor
/- gameplayerplain's reader in memory: blank, sign. Condition: a text of at most a million bytes. -/
namespace Go.Proofs.YtdkpflojdnkbnaaGreatDoor
open Go Go.RowKit
namespace RdA
open Kit LexM TermM TermI TermU UniK RdM
/-- The reader at block r has this left of the text. -/
def Rd (w : World) (r : Nat) (s : ByteArray) (l : List UInt8) : Prop :=
  s.size ≤ 1000000 ∧ ∃ k : Nat, k + l.length = s.size ∧ s.data.toList.drop k = l ∧ Has w r #[.string s, .int .i64 k]
theorem Rd.below {w w' : World} {r : Nat} {s : ByteArray} {l : List UInt8} (h : Rd w r s l) (k : Below w.heap.size w w') : Rd w' r s l := by
  obtain ⟨h0, n, h1, h2, h3⟩ := h
  exact ⟨h0, n, h1, h2, h3.step0 k⟩
theorem Rd.lt {w : World} {r : Nat} {s : ByteArray} {l : List UInt8} (h : Rd w r s l) : r < w.heap.size := by
  obtain ⟨_, _, _, _, h⟩ := h; exact h.lt
theorem byte_at {s : ByteArray} {l : List UInt8} {k : Nat} {c : UInt8} (hk : k + (c :: l).length = s.size) (hd : s.data.toList.drop k = c :: l) : ∃ h : k < s.size, s[k] = c := by
  simp at hk
  have hlt : k < s.size := by omega
  refine ⟨hlt, ?_⟩
  have h2 : s.data.toList[k]? = some c := by
    have := congrArg (fun x => x[0]?) hd
    simpa using this
  have h3 : s.data.toList[k]? = some s[k] := by
    rw [List.getElem?_eq_getElem (by simpa using hlt)]
    rfl
  rw [h3] at h2
  exact Option.some.inj h2
theorem drop_step {s : ByteArray} {l : List UInt8} {k : Nat} {c : UInt8} (hk : k + (c :: l).length = s.size) (hd : s.data.toList.drop k = c :: l) : (k + 1) + l.length = s.size ∧ s.data.toList.drop (k + 1) = l := by
  refine ⟨by simp at hk; omega, ?_⟩
  have := congrArg (List.drop 1) hd
  rw [List.drop_drop] at this
  simpa using this
/-- A byte is passed. -/
theorem Rd.pass {w : World} {r : Nat} {s : ByteArray} {l : List UInt8} {c : UInt8} {k : Nat} (h0 : s.size ≤ 1000000) (hk : k + (c :: l).length = s.size) (hd : s.data.toList.drop k = c :: l) (h : Has w r #[.string s, .int .i64 k]) : Rd (w.setCell ⟨r, 1, none⟩ (.int .i64 ((k : Int) + 1))) r s l := by
  obtain ⟨h1, h2⟩ := drop_step hk hd
  exact ⟨h0, k + 1, h1, h2, h.set 1 (.int .i64 ((k : Int) + 1))⟩
theorem bl_int (c : UInt8) : bl c = ((c.toNat : Int) == 32 || (c.toNat : Int) == 10) := by
  unfold bl
  have e1 : (c == 32) = ((c.toNat : Int) == 32) := by rw [Bool.eq_iff_iff]; simp [← UInt8.toNat_inj]; omega
  have e2 : (c == 10) = ((c.toNat : Int) == 10) := by rw [Bool.eq_iff_iff]; simp [← UInt8.toNat_inj]; omega
  rw [e1, e2]
/-- What blank leaves. -/
def BlQ (r : Nat) (s : ByteArray) (l : List UInt8) (w : World) (e : Ending) (w' : World) : Prop := e = .returned (.tuple #[]) ∧ Rd w' r s l ∧ Ch r w w'
def LB (r : Nat) (s : ByteArray) (T : List UInt8) (w : World) (gk : Nat) (wr : World) : Prop := ∃ m : List UInt8, m.length = gk ∧ blankL m = T ∧ Rd wr r s m ∧ Ch r w wr
theorem blank_stop {c : UInt8} {m : List UInt8} (h : bl c = false) : blankL (c :: m) = c :: m := by simp [blankL, h]
theorem blank_go {c : UInt8} {m : List UInt8} (h : bl c = true) : blankL (c :: m) = blankL m := by simp [blankL, h]
set_option maxRecDepth 100000 in
set_option maxHeartbeats 3200000 in
theorem blank_any (s : ByteArray) (l : List UInt8) (w : World) (r : Nat) (h : Rd w r s l) :
    Calls Tryz.prog 95 #[.pointer (some ⟨r, 0, none⟩)] w (BlQ r s (blankL l) w) := by
  have hs0 := h.1
  have L0 : Hid (LB r s (blankL l) w l.length w) := Lib.hid ⟨l, rfl, rfl, h, Ch.refl _ _⟩
  generalize blankL l = T at *
  generalize l.length = n0 at *
  clear h l
  unfold BlQ
  go_enter Tryz.func95, Tryz.ntmps95
  go_wp2_with fail
  go_loopg [] n0 (fun gk wr => Hid (LB r s T w gk wr))
  case atStart => exact L0
  case round =>
    clear L0
    obtain ⟨m, hm, hT, hR, hC⟩ := hrel.out
    obtain ⟨_, k, hk, hd, hH⟩ := hR
    obtain ⟨y1, y2, f1, f2, hlt⟩ := hH.two
    have HM := Lib.hid hm
    have HT := Lib.hid hT
    have HC := Lib.hid hC
    have HH := Lib.hid hH
    clear hm hT hC hH hrel
    cases m with
    | nil =>
      have hkn : k = s.size := by simpa using hk
      have c1 : decide (k < s.size) = false := by rw [hkn]; simp
      have HK := Lib.hid hk
      have HD := Lib.hid hd
      clear hk hd hkn
      go_wp2_with fail
      go_quiet (fail)
      all_goals
        go_wp2_with fail
        go_end0
        refine ⟨rfl, ?_, ?_⟩
        · rw [← HT.out]
          exact ⟨hs0, k, HK.out, HD.out, HH.out.step0 (below_drewN (Below.refl _ _) _)⟩
        · exact HC.out.below (below_drewN (Below.refl _ _) _)
    | cons c m =>
      obtain ⟨hks, hb⟩ := byte_at hk hd
      have c1 : decide (k < s.size) = true := by simpa using hks
      have i1 : (0 : Int) ≤ (k : Int) := by omega
      have i2 : (k : Int) < (s.size : Int) := by omega
      have i3 : (k : Int) ≤ 1000000 := by omega
      have HB : Hid (bl c = ((s[k].toNat : Int) == 32 || (s[k].toNat : Int) == 10)) := Lib.hid (by rw [hb]; exact bl_int c)
      have HK := Lib.hid hk
      have HD := Lib.hid hd
      clear hk hd hb
      obtain ⟨z1, hz1⟩ : ∃ z, ((s[k].toNat : Int) == 32) = z := ⟨_, rfl⟩
      obtain ⟨z2, hz2⟩ : ∃ z, ((s[k].toNat : Int) == 10) = z := ⟨_, rfl⟩
      rw [hz1, hz2] at HB
      cases z1 <;> cases z2
      · have HB2 : Hid (bl c = false) := Lib.hid HB.out
        go_wp2_with fail
        go_quiet (fail)
        all_goals
          go_wp2_with fail
          go_end0
          refine ⟨rfl, ?_, ?_⟩
          · rw [← HT.out, blank_stop HB2.out]
            exact ⟨hs0, k, HK.out, HD.out, HH.out.step0 (below_drewN (Below.refl _ _) _)⟩
          · exact HC.out.below (below_drewN (Below.refl _ _) _)
      all_goals
        have HB2 : Hid (bl c = true) := Lib.hid HB.out
        go_wp2_with fail
        go_quiet (fail)
        all_goals
          have H5 := Lib.hid (HH.out.step0 (below_drewN (Below.refl _ _) nq))
          have C5 := Lib.hid (HC.out.below (below_drewN (Below.refl _ _) nq))
          go_wp2_with fail
          go_roundg (gk - 1)
          case rel => exact Lib.hid ⟨m, by have := HM.out; simp at this; omega, by rw [← HT.out, blank_go HB2.out], Rd.pass hs0 HK.out HD.out H5.out, C5.out.put (Or.inl rfl) _⟩
          case measure => have := HM.out; simp at this; omega
end RdA
end Go.Proofs.YtdkpflojdnkbnaaGreatDoor
/- gameplayerplain's reader in memory: sign, word. Condition: a text of at most a million bytes. -/
namespace Go.Proofs.YtdkpflojdnkbnaaGreatDoor
open Go Go.RowKit
namespace RdB
open Kit LexM TermM TermI TermU UniK RdM RdA
/-- What sign leaves. -/
def SgQ (r : Nat) (s : ByteArray) (o : Bool × List UInt8) (w : World) (e : Ending) (w' : World) : Prop := e = .returned (.bool o.1) ∧ Rd w' r s o.2 ∧ Ch r w w'
set_option maxRecDepth 100000 in
set_option maxHeartbeats 3200000 in
theorem sign_any (s : ByteArray) (l : List UInt8) (c : UInt8) (w : World) (r : Nat) (h : Rd w r s l) :
    Calls Tryz.prog 97 #[.pointer (some ⟨r, 0, none⟩), .int .u8 c.toNat] w (SgQ r s (signL c l) w) := by
  have hs0 := h.1
  have CB := Lib.hid (blank_any s l w r h)
  have HL : Hid (signL c l = match blankL l with | x :: q => if x = c then (true, q) else (false, x :: q) | [] => (false, [])) := Lib.hid rfl
  unfold BlQ at CB
  generalize blankL l = m at *
  clear h
  unfold SgQ
  go_enter Tryz.func97, Tryz.ntmps97
  go_wp2_with fail
  refine CB.out.mono ?_
  rintro e w2 ⟨rfl, hR, hC⟩
  obtain ⟨_, k, hk, hd, hH⟩ := hR
  obtain ⟨y1, y2, f1, f2, hlt⟩ := hH.two
  have HC := Lib.hid hC
  have HH := Lib.hid hH
  clear hC hH CB
  cases m with
  | nil =>
    have HO : Hid (signL c l = (false, [])) := Lib.hid HL.out
    have hkn : k = s.size := by simpa using hk
    have c1 : decide (k < s.size) = false := by rw [hkn]; simp
    have HK := Lib.hid hk
    have HD := Lib.hid hd
    clear hk hd hkn HL
    go_wp2_with fail
    go_quiet (fail)
    all_goals
      go_wp2_with fail
      go_ret
      refine ⟨by rw [HO.out]; rfl, ?_, HC.out.below (below_drewN (Below.refl _ _) _)⟩
      rw [HO.out]
      exact ⟨hs0, k, HK.out, HD.out, HH.out.step0 (below_drewN (Below.refl _ _) _)⟩
  | cons x q =>
    obtain ⟨hks, hb⟩ := byte_at hk hd
    have c1 : decide (k < s.size) = true := by simpa using hks
    have i1 : (0 : Int) ≤ (k : Int) := by omega
    have i2 : (k : Int) < (s.size : Int) := by omega
    have i3 : (k : Int) ≤ 1000000 := by omega
    have HB : Hid ((x = c) ↔ ((s[k].toNat : Int) == (c.toNat : Int)) = true) := Lib.hid (by rw [hb, beq_iff_eq, ← UInt8.toNat_inj]; omega)
    have HK := Lib.hid hk
    have HD := Lib.hid hd
    clear hk hd hb
    obtain ⟨z1, hz1⟩ : ∃ z, ((s[k].toNat : Int) == (c.toNat : Int)) = z := ⟨_, rfl⟩
    rw [hz1] at HB
    cases z1
    · have HO : Hid (signL c l = (false, x :: q)) := Lib.hid (by rw [HL.out]; exact if_neg fun e => Bool.noConfusion (HB.out.1 e))
      clear HL HB
      go_wp2_with fail
      go_quiet (fail)
      all_goals
        go_wp2_with fail
        go_ret
        refine ⟨by rw [HO.out]; rfl, ?_, HC.out.below (below_drewN (Below.refl _ _) _)⟩
        rw [HO.out]
        exact ⟨hs0, k, HK.out, HD.out, HH.out.step0 (below_drewN (Below.refl _ _) _)⟩
    · have HO : Hid (signL c l = (true, q)) := Lib.hid (by rw [HL.out]; exact if_pos (HB.out.2 rfl))
      clear HL HB
      go_wp2_with fail
      go_quiet (fail)
      all_goals
        have H5 := Lib.hid (HH.out.step0 (below_drewN (Below.refl _ _) nq))
        have C5 := Lib.hid (HC.out.below (below_drewN (Below.refl _ _) nq))
        go_wp2_with fail
        go_ret
        refine ⟨by rw [HO.out]; rfl, ?_, C5.out.put (Or.inl rfl) _⟩
        rw [HO.out]
        exact Rd.pass hs0 HK.out HD.out H5.out
end RdB
end Go.Proofs.YtdkpflojdnkbnaaGreatDoor
/- The region of word's loop may be walked in the text's order: checked in three parts. No conditions. -/
namespace Go.Proofs.YtdkpflojdnkbnaaGreatDoor
open Go Go.RowKit
namespace RdL
/-- The operations of a region, by its number. -/
def findReg (n : Nat) : Code → Option (Array Oper)
  | .region k ops _ => if k = n then some ops else none
  | .seq a b => match findReg n a with
    | some o => some o
    | none => findReg n b
  | .cond _ a b => match findReg n a with
    | some o => some o
    | none => findReg n b
  | .block _ b => findReg n b
  | .loop b => findReg n b
  | .scope b => findReg n b
  | _ => none
noncomputable def reg3 : Array Oper := ((Tryz.f54.body.bind (findReg 3)).getD #[])
def lexN (ops : Array Oper) : Nat → Nat → Array Bool → Bool
  | 0, _, _ => true
  | n + 1, k, li => (Region.ready .any ops li).contains k && Region.free .any ops li k && lexN ops n (k + 1) (li.setIfInBounds k true)
def setN : Nat → Nat → Array Bool → Array Bool
  | 0, _, li => li
  | n + 1, k, li => setN n (k + 1) (li.setIfInBounds k true)
theorem lex_split (ops : Array Oper) (b : Nat) : ∀ (a k : Nat) (li : Array Bool), Region.lexFrom .any ops (a + b) k li = (lexN ops a k li && Region.lexFrom .any ops b (k + a) (setN a k li))
  | 0, k, li => by simp [lexN, setN]
  | a + 1, k, li => by
    rw [show a + 1 + b = (a + b) + 1 by omega, show k + (a + 1) = k + 1 + a by omega]
    show ((Region.ready .any ops li).contains k && Region.free .any ops li k && Region.lexFrom .any ops (a + b) (k + 1) (li.setIfInBounds k true)) = _
    rw [lex_split ops b a (k + 1)]
    simp only [lexN, setN, Bool.and_assoc]
theorem size3 : reg3.size = 94 := by kernel_rfl
theorem nosel3 : Region.noSelect reg3 = true := by kernel_rfl
theorem part1 : lexN reg3 24 0 (Array.replicate 94 false) = true := by kernel_rfl
theorem part2 : lexN reg3 24 24 (setN 24 0 (Array.replicate 94 false)) = true := by kernel_rfl
theorem part3 : lexN reg3 24 48 (setN 24 24 (setN 24 0 (Array.replicate 94 false))) = true := by kernel_rfl
theorem part4 : Region.lexFrom .any reg3 22 72 (setN 24 48 (setN 24 24 (setN 24 0 (Array.replicate 94 false)))) = true := by kernel_rfl
theorem lex3 : Region.lexB .any reg3 = true := by
  unfold Region.lexB
  rw [size3, nosel3, Bool.true_and, show (94 : Nat) = 24 + (24 + (24 + 22)) from rfl, lex_split, lex_split, lex_split, part1, Bool.true_and]
  exact (Bool.and_eq_true_iff.2 ⟨part2, Bool.and_eq_true_iff.2 ⟨part3, part4⟩⟩)
end RdL
end Go.Proofs.YtdkpflojdnkbnaaGreatDoor
/- gameplayerplain's reader in memory: word. Condition: a text of at most a million bytes. Made by genrdc.py. -/
namespace Go.Proofs.YtdkpflojdnkbnaaGreatDoor
open Go Go.RowKit
namespace RdC
open Kit LexM TermM TermI TermU UniK RdM RdA RdB
theorem wd_nat (c : UInt8) : wd c = true ↔ c.toNat = 45 ∨ (48 ≤ c.toNat ∧ c.toNat ≤ 57) ∨ (97 ≤ c.toNat ∧ c.toNat ≤ 122) ∨ (65 ≤ c.toNat ∧ c.toNat ≤ 90) := by
  unfold wd
  simp only [Bool.or_eq_true, Bool.and_eq_true, beq_iff_eq, decide_eq_true_eq, UInt8.le_iff_toNat_le, ← UInt8.toNat_inj]
  exact Iff.rfl
theorem okm {s : ByteArray} {k : Nat} (h : k < s.size) : s[k] ∈ s.data.toList := by
  have : s.data.toList[k]'(by simpa using h) = s[k] := rfl
  rw [← this]
  exact List.getElem_mem _
theorem cut_list (s : ByteArray) (a k : Nat) : (s.extract a k).data.toList = (s.data.toList.drop a).take (k - a) := by
  rw [ByteArray.data_extract, Array.toList_extract, List.extract_eq_take_drop]
theorem cut_run (s : ByteArray) (a k : Nat) (h1 : a ≤ k) (h2 : k ≤ s.size) (W : List UInt8) (hW : (s.data.toList.drop a).take (k - a) = W) (w : World) :
    (Instr.slice 9 (.string s) (some (.int .i64 (a : Int))) (some (.int .i64 (k : Int))) none).run Tryz.prog w = .ok (.string (bs W)) w := by
  have h := run_slice_string (P := Tryz.prog) w 9 s .i64 .i64 (a : Int) (k : Int) Tryz.underlying9 (by omega) (by omega) (by omega)
  rw [h]
  have e : s.extract (a : Int).toNat (k : Int).toNat = bs W := Go.WideShapes.bytes_inj (by
    rw [Int.toNat_natCast, Int.toNat_natCast, cut_list, hW]
    simp [bs])
  rw [e]
/-- What word leaves. -/
def WdQ (r : Nat) (s : ByteArray) (o : List UInt8 × List UInt8) (w : World) (e : Ending) (w' : World) : Prop := e = .returned (.string (bs o.1)) ∧ Rd w' r s o.2 ∧ Ch r w w'
def LW (r : Nat) (s : ByteArray) (a : Nat) (W T : List UInt8) (w : World) (gk : Nat) (wr : World) : Prop :=
  ∃ (m : List UInt8) (k : Nat), m.length = gk ∧ k + m.length = s.size ∧ s.data.toList.drop k = m ∧ Has wr r #[.string s, .int .i64 k] ∧ Ch r w wr ∧ a ≤ k ∧ m.dropWhile wd = T ∧ (s.data.toList.drop a).take (k - a) ++ m.takeWhile wd = W
theorem lw_go {r : Nat} {s : ByteArray} {a k : Nat} {W T : List UInt8} {w w5 : World} {c : UInt8} {m : List UInt8} (hw : wd c = true) (hk : k + (c :: m).length = s.size) (hd : s.data.toList.drop k = c :: m) (h5 : Has w5 r #[.string s, .int .i64 k]) (c5 : Ch r w w5) (ha : a ≤ k) (hT : (c :: m).dropWhile wd = T) (hW : (s.data.toList.drop a).take (k - a) ++ (c :: m).takeWhile wd = W) :
    LW r s a W T w m.length (w5.setCell ⟨r, 1, none⟩ (.int .i64 ((k : Int) + 1))) := by
  obtain ⟨h1, h2⟩ := drop_step hk hd
  refine ⟨m, k + 1, rfl, h1, h2, h5.set 1 (.int .i64 ((k : Int) + 1)), c5.put (Or.inl rfl) _, by omega, by rw [← hT]; simp [hw], ?_⟩
  rw [← hW, List.takeWhile_cons_of_pos hw, show k + 1 - a = (k - a) + 1 by omega]
  have e : (s.data.toList.drop a)[k - a]? = some c := by
    rw [List.getElem?_drop, show a + (k - a) = k by omega]
    have := congrArg (fun x => x[0]?) hd
    simpa using this
  rw [take_get _ _ _ e]
  simp
/-- A byte of a trusted text. -/
def okB (c : UInt8) : Bool := wd c || c < 48
theorem cls5 (c : UInt8) (h : okB c = true) : (c.toNat = 45) ∨ (c.toNat ≤ 47 ∧ c.toNat ≠ 45) ∨ (48 ≤ c.toNat ∧ c.toNat ≤ 57) ∨ (65 ≤ c.toNat ∧ c.toNat ≤ 90) ∨ (97 ≤ c.toNat ∧ c.toNat ≤ 122) := by
  unfold okB at h
  rw [Bool.or_eq_true, wd_nat, decide_eq_true_eq, UInt8.lt_iff_toNat_lt] at h
  have e : (48 : UInt8).toNat = 48 := rfl
  rw [e] at h
  rcases h with (h | h | h | h) | h
  · exact Or.inl h
  · exact Or.inr (Or.inr (Or.inl h))
  · exact Or.inr (Or.inr (Or.inr (Or.inr h)))
  · exact Or.inr (Or.inr (Or.inr (Or.inl h)))
  · by_cases h5 : c.toNat = 45
    · exact Or.inl h5
    · exact Or.inr (Or.inl ⟨by omega, h5⟩)
set_option maxRecDepth 100000 in
set_option maxHeartbeats 6400000 in
theorem word_any (s : ByteArray) (l : List UInt8) (w : World) (r : Nat) (hok : ∀ c ∈ s.data.toList, okB c = true) (h : Rd w r s l) :
    Calls Tryz.prog 54 #[.pointer (some ⟨r, 0, none⟩)] w (WdQ r s (wordL l) w) := by
  have hs0 := h.1
  have CB := Lib.hid (blank_any s l w r h)
  have HL1 : Hid ((wordL l).1 = (blankL l).takeWhile wd) := Lib.hid rfl
  have HL2 : Hid ((wordL l).2 = (blankL l).dropWhile wd) := Lib.hid rfl
  unfold BlQ at CB
  generalize blankL l = m0 at *
  clear h
  unfold WdQ
  obtain ⟨W, hW⟩ : ∃ W, (wordL l).1 = W := ⟨_, rfl⟩
  obtain ⟨T, hT⟩ : ∃ T, (wordL l).2 = T := ⟨_, rfl⟩
  rw [hW] at HL1 ⊢
  rw [hT] at HL2 ⊢
  clear hW hT
  go_enter Tryz.func54, Tryz.ntmps54
  go_wp2_with fail
  refine CB.out.mono ?_
  rintro e w2 ⟨rfl, hR, hC⟩
  obtain ⟨_, a, hk, hd, hH⟩ := hR
  obtain ⟨y1, y2, f1, f2, hlt⟩ := hH.two
  have L0 : Hid (LW r s a W T w m0.length w2) := Lib.hid ⟨m0, a, rfl, hk, hd, hH, hC, Nat.le_refl _, HL2.out.symm, by rw [Nat.sub_self, List.take_zero, List.nil_append]; exact HL1.out.symm⟩
  have ha : a ≤ s.size := by omega
  generalize m0.length = n0 at *
  clear hk hd hH hC CB HL1 HL2
  go_wp2_with fail
  clear y1 y2 f1 f2 hlt
  go_loopg [] n0 (fun gk wr => Hid (LW r s a W T w gk wr))
  case atStart => exact L0
  case round =>
    clear L0
    obtain ⟨m, k, hm, hk, hd, hH, hC, hak, hmT, hmW⟩ := hrel.out
    obtain ⟨y1, y2, f1, f2, hlt⟩ := hH.two
    have HM := Lib.hid hm
    have HT := Lib.hid hmT
    have HW := Lib.hid hmW
    have HC := Lib.hid hC
    have HH := Lib.hid hH
    have HA := Lib.hid hak
    have i0 : (a : Int) ≤ (k : Int) := by omega
    have i1 : (0 : Int) ≤ (k : Int) := by omega
    have i4 : (0 : Int) ≤ (a : Int) := by omega
    have i5 : (k : Int) ≤ (s.size : Int) := by omega
    have i3 : (k : Int) ≤ 1000000 := by omega
    clear hm hmT hmW hC hH hrel
    go_wp2_with fail
    simp only [List.append_eq, List.cons_append, List.nil_append]
    refine wp_region_quiet_lit (by kernel_rfl) RdL.lex3 ?_
    cases m with
    | nil =>
      have hkn : k = s.size := by simpa using hk
      have c1 : decide (k < s.size) = false := by rw [hkn]; simp
      have E := fun w' => cut_run s a k hak (by omega) W (by have := HW.out; rwa [List.takeWhile_nil, List.append_nil] at this) w'
      have HK := Lib.hid hk
      have HD := Lib.hid hd
      clear hk hd hkn hak
      repeat (go_big_quiet_step (fail))
      refine wpQuiet_nil ?_
      intro _ hw'
      obtain ⟨nq, hw''⟩ := hw'
      subst hw''
      go_wp2_with fail
      go_quiet (fail)
      go_wp2_with fail
      go_ret
      refine ⟨rfl, ⟨hs0, k, (by rw [← HT.out]; exact HK.out), ?_, HH.out.step0 (below_drewN (below_drewN (Below.refl _ _) _) _)⟩, HC.out.below (below_drewN (below_drewN (Below.refl _ _) _) _)⟩
      rw [← HT.out]
      exact (HD.out.trans (by simp))
    | cons c m =>
      obtain ⟨hks, hb⟩ := byte_at hk hd
      have c1 : decide (k < s.size) = true := by simpa using hks
      have i2 : (k : Int) < (s.size : Int) := by omega
      have hn := hb
      have hc8 : c.toNat < 256 := UInt8.toNat_lt c
      have HK := Lib.hid hk
      have HD := Lib.hid hd
      clear hk hd
      have hcl := cls5 c (hok c (by rw [← hb]; exact okm hks))
      rcases hcl with hcl | hcl | hcl | hcl | hcl
      · rw [← hb] at hcl
        have b1 : ((s[k].toNat : Int) == 45) = true := by rw [beq_iff_eq]; omega
        have b2 : decide (48 ≤ (s[k].toNat : Int)) = false := by rw [decide_eq_false_iff_not]; omega
        have b3 : decide ((s[k].toNat : Int) ≤ 57) = true := by rw [decide_eq_true_eq]; omega
        have b4 : decide (97 ≤ (s[k].toNat : Int)) = false := by rw [decide_eq_false_iff_not]; omega
        have b5 : decide ((s[k].toNat : Int) ≤ 122) = true := by rw [decide_eq_true_eq]; omega
        have b6 : decide (65 ≤ (s[k].toNat : Int)) = false := by rw [decide_eq_false_iff_not]; omega
        have b7 : decide ((s[k].toNat : Int) ≤ 90) = true := by rw [decide_eq_true_eq]; omega
        have HWD : Hid (wd c = true) := Lib.hid (by rw [wd_nat, ← hb]; omega)
        clear hcl hn hb hc8 hak
        repeat (go_big_quiet_step (fail))
        refine wpQuiet_nil ?_
        intro _ hw'
        obtain ⟨nq, hw''⟩ := hw'
        subst hw''
        have H5 := Lib.hid (HH.out.step0 (below_drewN (Below.refl _ _) nq))
        have C5 := Lib.hid (HC.out.below (below_drewN (Below.refl _ _) nq))
        go_wp2_with fail
        have G5 := Lib.hid (lw_go HWD.out HK.out HD.out H5.out C5.out HA.out HT.out HW.out)
        go_roundg (gk - 1)
        case rel => have := HM.out; simp at this; rw [show gk - 1 = m.length by omega]; exact G5
        case measure => have := HM.out; simp at this; omega
      · rw [← hb] at hcl
        have b1 : ((s[k].toNat : Int) == 45) = false := by rw [beq_eq_false_iff_ne]; omega
        have b2 : decide (48 ≤ (s[k].toNat : Int)) = false := by rw [decide_eq_false_iff_not]; omega
        have b4 : decide (97 ≤ (s[k].toNat : Int)) = false := by rw [decide_eq_false_iff_not]; omega
        have b6 : decide (65 ≤ (s[k].toNat : Int)) = false := by rw [decide_eq_false_iff_not]; omega
        have HWD : Hid (wd c = false) := Lib.hid (by rw [Bool.eq_false_iff]; intro e; rw [wd_nat, ← hb] at e; omega)
        have E := fun w' => cut_run s a k hak (by omega) W (by have := HW.out; rwa [List.takeWhile_cons_of_neg (by rw [HWD.out]; decide), List.append_nil] at this) w'
        clear hcl hn hb hc8 hak
        repeat (go_big_quiet_step (fail))
        refine wpQuiet_nil ?_
        intro _ hw'
        obtain ⟨nq, hw''⟩ := hw'
        subst hw''
        go_wp2_with fail
        go_quiet (fail)
        go_wp2_with fail
        go_ret
        refine ⟨rfl, ⟨hs0, k, (by rw [← HT.out, List.dropWhile_cons_of_neg (by rw [HWD.out]; decide)]; exact HK.out), ?_, HH.out.step0 (below_drewN (below_drewN (Below.refl _ _) _) _)⟩, HC.out.below (below_drewN (below_drewN (Below.refl _ _) _) _)⟩
        rw [← HT.out]
        exact (HD.out.trans (by simp [HWD.out]))
      · rw [← hb] at hcl
        have b1 : ((s[k].toNat : Int) == 45) = false := by rw [beq_eq_false_iff_ne]; omega
        have b2 : decide (48 ≤ (s[k].toNat : Int)) = true := by rw [decide_eq_true_eq]; omega
        have b3 : decide ((s[k].toNat : Int) ≤ 57) = true := by rw [decide_eq_true_eq]; omega
        have b4 : decide (97 ≤ (s[k].toNat : Int)) = false := by rw [decide_eq_false_iff_not]; omega
        have b5 : decide ((s[k].toNat : Int) ≤ 122) = true := by rw [decide_eq_true_eq]; omega
        have b6 : decide (65 ≤ (s[k].toNat : Int)) = false := by rw [decide_eq_false_iff_not]; omega
        have b7 : decide ((s[k].toNat : Int) ≤ 90) = true := by rw [decide_eq_true_eq]; omega
        have HWD : Hid (wd c = true) := Lib.hid (by rw [wd_nat, ← hb]; omega)
        clear hcl hn hb hc8 hak
        repeat (go_big_quiet_step (fail))
        refine wpQuiet_nil ?_
        intro _ hw'
        obtain ⟨nq, hw''⟩ := hw'
        subst hw''
        have H5 := Lib.hid (HH.out.step0 (below_drewN (Below.refl _ _) nq))
        have C5 := Lib.hid (HC.out.below (below_drewN (Below.refl _ _) nq))
        go_wp2_with fail
        have G5 := Lib.hid (lw_go HWD.out HK.out HD.out H5.out C5.out HA.out HT.out HW.out)
        go_roundg (gk - 1)
        case rel => have := HM.out; simp at this; rw [show gk - 1 = m.length by omega]; exact G5
        case measure => have := HM.out; simp at this; omega
      · rw [← hb] at hcl
        have b1 : ((s[k].toNat : Int) == 45) = false := by rw [beq_eq_false_iff_ne]; omega
        have b2 : decide (48 ≤ (s[k].toNat : Int)) = true := by rw [decide_eq_true_eq]; omega
        have b3 : decide ((s[k].toNat : Int) ≤ 57) = false := by rw [decide_eq_false_iff_not]; omega
        have b4 : decide (97 ≤ (s[k].toNat : Int)) = false := by rw [decide_eq_false_iff_not]; omega
        have b5 : decide ((s[k].toNat : Int) ≤ 122) = true := by rw [decide_eq_true_eq]; omega
        have b6 : decide (65 ≤ (s[k].toNat : Int)) = true := by rw [decide_eq_true_eq]; omega
        have b7 : decide ((s[k].toNat : Int) ≤ 90) = true := by rw [decide_eq_true_eq]; omega
        have HWD : Hid (wd c = true) := Lib.hid (by rw [wd_nat, ← hb]; omega)
        clear hcl hn hb hc8 hak
        repeat (go_big_quiet_step (fail))
        refine wpQuiet_nil ?_
        intro _ hw'
        obtain ⟨nq, hw''⟩ := hw'
        subst hw''
        have H5 := Lib.hid (HH.out.step0 (below_drewN (Below.refl _ _) nq))
        have C5 := Lib.hid (HC.out.below (below_drewN (Below.refl _ _) nq))
        go_wp2_with fail
        have G5 := Lib.hid (lw_go HWD.out HK.out HD.out H5.out C5.out HA.out HT.out HW.out)
        go_roundg (gk - 1)
        case rel => have := HM.out; simp at this; rw [show gk - 1 = m.length by omega]; exact G5
        case measure => have := HM.out; simp at this; omega
      · rw [← hb] at hcl
        have b1 : ((s[k].toNat : Int) == 45) = false := by rw [beq_eq_false_iff_ne]; omega
        have b2 : decide (48 ≤ (s[k].toNat : Int)) = true := by rw [decide_eq_true_eq]; omega
        have b3 : decide ((s[k].toNat : Int) ≤ 57) = false := by rw [decide_eq_false_iff_not]; omega
        have b4 : decide (97 ≤ (s[k].toNat : Int)) = true := by rw [decide_eq_true_eq]; omega
        have b5 : decide ((s[k].toNat : Int) ≤ 122) = true := by rw [decide_eq_true_eq]; omega
        have b6 : decide (65 ≤ (s[k].toNat : Int)) = true := by rw [decide_eq_true_eq]; omega
        have b7 : decide ((s[k].toNat : Int) ≤ 90) = false := by rw [decide_eq_false_iff_not]; omega
        have HWD : Hid (wd c = true) := Lib.hid (by rw [wd_nat, ← hb]; omega)
        clear hcl hn hb hc8 hak
        repeat (go_big_quiet_step (fail))
        refine wpQuiet_nil ?_
        intro _ hw'
        obtain ⟨nq, hw''⟩ := hw'
        subst hw''
        have H5 := Lib.hid (HH.out.step0 (below_drewN (Below.refl _ _) nq))
        have C5 := Lib.hid (HC.out.below (below_drewN (Below.refl _ _) nq))
        go_wp2_with fail
        have G5 := Lib.hid (lw_go HWD.out HK.out HD.out H5.out C5.out HA.out HT.out HW.out)
        go_roundg (gk - 1)
        case rel => have := HM.out; simp at this; rw [show gk - 1 = m.length by omega]; exact G5
        case measure => have := HM.out; simp at this; omega
end RdC
end Go.Proofs.YtdkpflojdnkbnaaGreatDoor
