/- Texts laid together: PriA; PriB; TermS; TermA. Their own heads stand before each. -/
import Derived.Test.YtfdpelokiljigaaDoorPk8
import Derived.Test.YtfdpelokiljigaaDoorPk12
import Derived.Test.YtfdpelokiljigaaDoorPk6
import Derived.Test.YtfdpelokiljigaaDoorPk1
/- The code's Literal, and join at literals. Conditions: texts of at most 10^8 bytes, in all at most 2^47. -/
namespace Go.Proofs.YtfdpelokiljigaaDoor
open Go Go.RowKit
namespace PriA
open LexM TermM TermI Kit TermN TermU TermT ParM ParK ParP PriM PriJ
theorem three {w : World} {g : Nat} {a b c : Value} (h : Has w g #[a, b, c]) : w.cell? ⟨g, 0, none⟩ = some a ∧ w.cell? ⟨g, 1, none⟩ = some b ∧ w.cell? ⟨g, 2, none⟩ = some c := ⟨h.cell 0, h.cell 1, h.cell 2⟩
theorem _root_.Go.Proofs.YtfdpelokiljigaaDoor.ParP.RowL.deep {B B' : Nat} {w w' : World} {l : List Lt} {p : Option Addr} (h : RowL B w l p) (g : Below B' w w') (hB : B ≤ B') : RowL B w' l p := fun k hk => by
  obtain ⟨t, b, o, q, d, h1, h2, h3, h4, h5, h6, h7, h8⟩ := h k hk
  have hc : ∀ j, w'.cell? ⟨b, j, none⟩ = w.cell? ⟨b, j, none⟩ := fun j => g.cell (p := ⟨b, j, none⟩) (Nat.lt_of_lt_of_le h3 hB)
  exact ⟨t, b, o, q, d, h1, h2, h3, (hc _).trans h4, (hc _).trans h5, (hc _).trans h6, h7.deep g hB, h8⟩
theorem bs_app (a b : List UInt8) : bs a ++ bs b = bs (a ++ b) := by
  apply ByteArray.ext
  apply Array.ext'
  simp [bs]
theorem bs_lit (x : Lt) : (if x.1 then ⟨#[110, 111, 116, 32]⟩ ++ bs (textT x.2) else bs (textT x.2)) = bs (litX x) := by
  obtain ⟨b, t⟩ := x
  cases b
  · rfl
  · exact bs_app [110, 111, 116, 32] (textT t)
theorem text_bs (t : Tm) (B : Nat) (w : World) (sv : Value) (hw : Wd w) (hB : B ≤ w.heap.size) (h : SlIn (· < B) w t.args sv) (hz : (textT t).length ≤ 100000000) :
    Calls Tryd.prog 32 #[.agg #[.string t.nm, sv]] w fun e w' => e = .returned (.string (bs (textT t))) ∧ Below w.heap.size w w' := text_any t B w sv hw hB h hz
set_option maxHeartbeats 1600000 in
theorem lit_any (x : Lt) (B : Nat) (w : World) (sv : Value) (hw : Wd w) (hB : B ≤ w.heap.size) (h : SlIn (· < B) w x.2.args sv) (hz : (textT x.2).length ≤ 100000000) :
    Calls Tryd.prog 13 #[.agg #[.bool x.1, .string x.2.nm, sv]] w fun e w' => e = .returned (.string (bs (litX x))) ∧ Below w.heap.size w w' := by
  obtain ⟨p, c, rfl⟩ := h.form
  have K := Lib.hid (text_bs x.2 B (w.alloc (.cells #[.bool x.1, .string x.2.nm, .slice p x.2.args.length c] 32)) (.slice p x.2.args.length c) (hw.below (below_alloc w _) hw.1) (by simp; omega) (h.gr (Gr.alloc _ _) hB) hz)
  have X := bs_lit x
  have KB : (bs (textT x.2)).size ≤ 100000000 := by rw [bs_size]; exact hz
  have P := Lib.hid (fun w' => run_string_add_sum (P := Tryd.prog) w' ⟨#[110, 111, 116, 32]⟩ (bs (textT x.2)) (by rw [bs_size]; show 4 + (textT x.2).length ≤ _; omega))
  clear KB
  generalize bs (textT x.2) = S at *
  generalize x.1 = nt at *
  obtain ⟨nt', xt⟩ := x
  dsimp only at *
  generalize litX _ = L at *
  clear h hw hz
  go_enter Tryd.func13, Tryd.ntmps13
  go_wp2_with fail
  refine K.out.mono ?_
  rintro e w2 ⟨rfl, hd⟩
  have H := (Has.new w 32 #[.bool nt, .string xt.nm, .slice p xt.args.length c]).below hd (by simp)
  obtain ⟨x1, x2, x3⟩ := three H
  have D2 := Lib.hid ((below_alloc w (.cells #[.bool nt, .string xt.nm, .slice p xt.args.length c] 32)).trans (hd.mono (by simp)))
  clear hd H
  have p1 := P.out
  cases nt
  · go_wp2_with fail
    go_ret
    exact ⟨by rw [← X]; rfl, D2.out⟩
  · go_wp2_with fail
    go_ret
    exact ⟨by rw [← X]; rfl, D2.out⟩
set_option maxRecDepth 100000 in
set_option maxHeartbeats 6400000 in
theorem jlits_any (l : List Lt) (B : Nat) (w : World) (sv : Value) (sep : ByteArray) (hw : Wd w) (hB : B ≤ w.heap.size) (h : LIn (· < B) w l sv) (hn : l.length ≤ 1000000) (ht : ∀ t ∈ l, (textT t.2).length ≤ 100000000)
    (hz : (Lib.join (l.map litX) sep.data.toList).length ≤ 140737488355328) :
    Calls Tryd.prog 34 #[sv, .string sep, .func (.func 13) #[] #[]] w fun e w' => e = .returned (.string (bs (Lib.join (l.map litX) sep.data.toList))) ∧ Below w.heap.size w w' := by
  obtain ⟨p, c, rfl, hc, hm, hR⟩ := LIn.row h
  have HR := Lib.hid hR
  have HW := Lib.hid hw
  have HB := Lib.hid hB
  have hg1 := hw.1
  obtain ⟨wm, M, O, G⟩ := make_any w (l.map litX) l.length (by simp) hn
  have O0 := Lib.hid O
  have B0 := Lib.hid ((Below.refl w.heap.size w).grown G (Nat.le_refl _) (fun k h => by cases h))
  have RG := Lib.hid (fun k (h : k < l.length) => srow_get (X := l.map litX) (k := k) (by simpa using h))
  have RS := Lib.hid (fun k x (h : (l.map litX)[k]? = some x) => srow_set h)
  have JN := Lib.hid (fun (w' : World) (ho : w'.ownsRow w.heap.size 9 1 (.slice (some ⟨w.heap.size, 0, none⟩) l.length l.length) l.length (srow (l.map litX) l.length)) => join_row (l.map litX) l.length w.heap.size w.heap.size sep w' (by simp) hn ho hz)
  have TX := Lib.hid (fun k t (h : l[k]? = some t) (w' : World) (sv : Value) (hw : Wd w') (hb : B ≤ w'.heap.size) (hs : SlIn (· < B) w' t.2.args sv) => lit_any t B w' sv hw hb hs (ht t (List.mem_of_getElem? h)))
  have GB : w.heap.size < wm.heap.size := by
    have := World.ownsRow.lt O0.out w.heap.size rfl
    omega
  have LT := Lib.hid (fun k t (h : l[k]? = some t) => show (l.map litX)[k]? = some (litX t) by rw [List.getElem?_map, h]; rfl)
  generalize Lib.join (l.map litX) sep.data.toList = J at *
  have SZ := Lib.hid (Nat.le_refl w.heap.size)
  clear O G hw hB hR h ht hz
  generalize l.map litX = X at *
  generalize hlm : l.length = m at *
  have HM := Lib.hid hlm
  clear hlm
  generalize hg0 : w.heap.size = g0 at *
  go_enter Tryd.func34, Tryd.ntmps34
  go_wp2_with fail
  go_loopw [15] (fun i wL => ∃ k : Nat, k ≤ m ∧ i = .int .i64 k ∧ Hid (wL.ownsRow g0 9 1 (.slice (some ⟨g0, 0, none⟩) m m) m (srow X k)) ∧ Hid (Below g0 w wL)) (fun i _ => m - (intOf i).toNat)
  case atStart => exact ⟨0, by omega, rfl, O0, B0⟩
  case round =>
    obtain ⟨k, hk, rfl, hO, hD⟩ := hrel
    by_cases hlt : k < m
    · obtain ⟨t, b, o, q, d, ht, rfl, hb, c1, c2, c3, hs, hts⟩ := (RowL.deep HR.out hD.out HB.out) k (by rw [HM.out]; exact hlt)
      have x1 := (hO.out.cellAt k (by omega)).trans (RG.out k hlt)
      have x2 := hO.out.frozenAt k
      have T1 := Lib.hid (TX.out k t ht)
      have S1 : Hid ((srow X k).set k (.string (bs (litX t))) = srow X (k + 1)) := Lib.hid (RS.out k _ (LT.out k t ht))
      have hsz := hD.out.size
      have gl := (World.ownsRow.lt hO.out g0 rfl).2
      have HS := Lib.hid hs
      clear ht hs hts
      go_wp2_with fail
      refine (T1.out _ _ (HW.out.below (hD.out.alloc (by omega) _) hg1) (by have := HB.out; simp; omega) (HS.out.gr (Gr.alloc _ _) (by have := HB.out; omega))).mono ?_
      rintro e w5 ⟨rfl, hd5⟩
      have O5 := Lib.hid (own_below (hO.out.alloc _) hd5 (fun g h => by cases h; simp; omega))
      have D5 := Lib.hid ((hD.out.alloc (by omega) _).trans (hd5.mono (by simp; omega)))
      have y1 := (O5.out.cellAt k (by omega)).trans (RG.out k hlt)
      have y2 := O5.out.frozenAt k
      have ST := Lib.hid (O5.out.stored k (.string (bs (litX t))))
      have hsz5 := D5.out.size
      clear hd5 x1 x2 c1 c2 c3
      generalize litX t = xt at *
      go_wp2_with fail
      go_roundw
      case rel =>
        refine ⟨k + 1, by omega, by go_num, ?_, ?_⟩
        · have h := ST.out.1
          rw [S1.out] at h
          exact Lib.hid h
        · exact Lib.hid (D5.out.grown ST.out.2 (by omega) (fun k h => by cases h; exact Nat.le_refl _))
      case measure => simp [intOf] <;> omega
    · obtain rfl : k = m := by omega
      have J1 := Lib.hid (JN.out wr hO.out)
      go_wp2_with fail
      refine J1.out.mono ?_
      rintro e w5 ⟨rfl, hd5⟩
      have D5 := Lib.hid (hD.out.trans (hd5.mono (by have := hD.out.size; omega)))
      clear hd5
      go_wp2_with fail
      go_ret
      exact ⟨rfl, D5.out⟩
end PriA
end Go.Proofs.YtfdpelokiljigaaDoor
/- The code's Rule and Terms of the printer. Conditions: texts of at most 10^8 bytes, in all at most 2^47. -/
namespace Go.Proofs.YtfdpelokiljigaaDoor
open Go Go.RowKit
namespace PriB
open LexM TermM TermI Kit TermN TermU TermT ParM ParK ParP PriM PriJ PriA
/-- The sizes that a rule's text is made under. -/
def Sm (r : Rl) : Prop := (textT r.1).length ≤ 100000000 ∧ r.2.length ≤ 1000000 ∧ (∀ x ∈ r.2, (textT x.2).length ≤ 100000000) ∧ (bodyX r.2).length ≤ 140737488355328
theorem bs_rule0 (t : Tm) : bs (textT t) ++ ⟨#[46]⟩ = bs (ruleX (t, [])) := by
  rw [show (⟨#[46]⟩ : ByteArray) = bs [46] from rfl, bs_app]
  simp [ruleX]
theorem bs_rule1 (t : Tm) (l : List Lt) (h : l ≠ []) : bs (textT t) ++ (⟨#[32, 105, 102, 32]⟩ ++ bs (bodyX l)) ++ ⟨#[46]⟩ = bs (ruleX (t, l)) := by
  rw [show (⟨#[46]⟩ : ByteArray) = bs [46] from rfl, show (⟨#[32, 105, 102, 32]⟩ : ByteArray) = bs [32, 105, 102, 32] from rfl, bs_app, bs_app, bs_app]
  have : l.isEmpty = false := by cases l <;> simp_all
  simp [ruleX, this]
set_option maxRecDepth 100000 in
set_option maxHeartbeats 3200000 in
theorem rule_any (r : Rl) (B : Nat) (w : World) (sa sl : Value) (hw : Wd w) (hB : B ≤ w.heap.size) (ha : SlIn (· < B) w r.1.args sa) (hl : LIn (· < B) w r.2 sl) (hz : Sm r) :
    Calls Tryd.prog 15 #[.agg #[.string r.1.nm, sa, sl]] w fun e w' => e = .returned (.string (bs (ruleX r))) ∧ Below w.heap.size w w' := by
  obtain ⟨t, l⟩ := r
  obtain ⟨z1, z2, z3, z4⟩ := hz
  dsimp only at *
  obtain ⟨p, c, rfl⟩ := ha.form
  obtain ⟨p', c', rfl⟩ := hl.form
  have hwa : Wd (w.alloc (.cells #[.string t.nm, .slice p t.args.length c, .slice p' l.length c'] 27)) := hw.below (below_alloc w _) hw.1
  have K := Lib.hid (text_bs t B (w.alloc (.cells #[.string t.nm, .slice p t.args.length c, .slice p' l.length c'] 27)) (.slice p t.args.length c) hwa (by simp; omega) (ha.gr (Gr.alloc _ _) hB) z1)
  have hl2 : LIn (· < B) (w.alloc (.cells #[.string t.nm, .slice p t.args.length c, .slice p' l.length c'] 27)) l (.slice p' l.length c') := hl.gr (Gr.alloc _ _) hB
  have K2 := Lib.hid (fun w2 (hb : Below (w.alloc (.cells #[.string t.nm, .slice p t.args.length c, .slice p' l.length c'] 27)).heap.size (w.alloc (.cells #[.string t.nm, .slice p t.args.length c, .slice p' l.length c'] 27)) w2) =>
    jlits_any l B w2 (.slice p' l.length c') ⟨#[32, 97, 110, 100, 32]⟩ (hwa.below hb hwa.1) (by have := hb.size; simp at this; omega) (hl2.keep (fun b o hlt => hb.cell (p := ⟨b, o, none⟩) (by simp; omega))) z2 z3 z4)
  have X0 := bs_rule0 t
  have X1 := bs_rule1 t l
  have zS : (bs (textT t)).size ≤ 100000000 := by rw [bs_size]; exact z1
  have zJ : (bs (bodyX l)).size ≤ 140737488355328 := by rw [bs_size]; exact z4
  have P0 := Lib.hid (fun w' => run_string_add_sum (P := Tryd.prog) w' (bs (textT t)) ⟨#[46]⟩ (by show _ + 1 ≤ _; omega))
  have P1 := Lib.hid (fun w' => run_string_add_sum (P := Tryd.prog) w' ⟨#[32, 105, 102, 32]⟩ (bs (bodyX l)) (by show 4 + _ ≤ _; omega))
  have P2 := Lib.hid (fun w' => run_string_add_sum (P := Tryd.prog) w' (bs (textT t)) (⟨#[32, 105, 102, 32]⟩ ++ bs (bodyX l)) (by rw [ByteArray.size_append]; show _ + (4 + _) ≤ _; omega))
  have P3 := Lib.hid (fun w' => run_string_add_sum (P := Tryd.prog) w' (bs (textT t) ++ (⟨#[32, 105, 102, 32]⟩ ++ bs (bodyX l))) ⟨#[46]⟩ (by rw [ByteArray.size_append, ByteArray.size_append]; show _ + (4 + _) + 1 ≤ _; omega))
  have E2 : bs (Lib.join (l.map litX) [32, 97, 110, 100, 32]) = bs (bodyX l) := rfl
  have K3 : Hid (∀ w2 : World, Below (w.alloc (.cells #[.string t.nm, .slice p t.args.length c, .slice p' l.length c'] 27)).heap.size (w.alloc (.cells #[.string t.nm, .slice p t.args.length c, .slice p' l.length c'] 27)) w2 →
    Calls Tryd.prog 34 #[.slice p' l.length c', .string ⟨#[32, 97, 110, 100, 32]⟩, .func (.func 13) #[] #[]] w2 fun e w' => e = .returned (.string (bs (bodyX l))) ∧ Below w2.heap.size w2 w') := Lib.hid K2.out
  have D0 := Lib.hid (below_alloc w (.cells #[.string t.nm, .slice p t.args.length c, .slice p' l.length c'] 27))
  have H0 := Lib.hid (Has.new w 27 #[.string t.nm, .slice p t.args.length c, .slice p' l.length c'])
  clear K2 E2 zS zJ z1 z2 z3 z4 hl2 hwa hw ha hl
  generalize bs (textT t) = S at *
  generalize bs (bodyX l) = J at *
  generalize hln : l.length = n at *
  by_cases h0 : l = []
  · subst h0
    obtain rfl : 0 = n := hln
    generalize bs (ruleX (t, [])) = R at *
    have p0 := P0.out
    clear P0 P1 P2 P3 K3 X1
    go_enter Tryd.func15, Tryd.ntmps15
    go_wp2_with fail
    refine K.out.mono ?_
    rintro e w2 ⟨rfl, hd⟩
    obtain ⟨x1, x2, x3⟩ := three (H0.out.below hd (by simp))
    have D2 := Lib.hid (D0.out.trans (hd.mono (by simp)))
    clear hd
    go_wp2_with fail
    go_ret
    exact ⟨rfl, D2.out⟩
  · have hg : ((n : Int) > 0) := by cases l <;> simp_all; omega
    have X1 := X1 h0
    generalize bs (ruleX (t, l)) = R at *
    have p1 := P1.out
    have p2 := P2.out
    have p3 := P3.out
    clear P0 P1 P2 P3 X0
    go_enter Tryd.func15, Tryd.ntmps15
    go_wp2_with fail
    refine K.out.mono ?_
    rintro e w2 ⟨rfl, hd⟩
    obtain ⟨x1, x2, x3⟩ := three (H0.out.below hd (by simp))
    have K4 := Lib.hid (K3.out w2 hd)
    have D2 := Lib.hid (D0.out.trans (hd.mono (by simp)))
    clear hd
    go_wp2_with fail
    refine K4.out.mono ?_
    rintro e w3 ⟨rfl, hd⟩
    have D3 := Lib.hid (D2.out.trans (hd.mono D2.out.size))
    clear hd
    go_wp2_with fail
    go_ret
    exact ⟨rfl, D3.out⟩
set_option maxHeartbeats 1600000 in
theorem terms_any (l : List Tm) (B : Nat) (w : World) (sv : Value) (hw : Wd w) (hB : B ≤ w.heap.size) (h : SlIn (· < B) w l sv) (hn : l.length ≤ 1000000) (ht : ∀ t ∈ l, (textT t).length ≤ 100000000) (hz : (termsX l).length ≤ 140737488355328) :
    Calls Tryd.prog 18 #[sv] w fun e w' => e = .returned (.string (bs (termsX l))) ∧ Below w.heap.size w w' := by
  have K : Hid (Calls Tryd.prog 35 #[sv, .string ⟨#[44, 32]⟩, .func (.func 32) #[] #[]] w fun e w' => e = .returned (.string (bs (termsX l))) ∧ Below w.heap.size w w') := Lib.hid (jterms_any l B w sv ⟨#[44, 32]⟩ hw hB h hn ht hz)
  obtain ⟨p, c, rfl⟩ := h.form
  generalize bs (termsX l) = R at *
  clear h ht hz
  go_enter Tryd.func18, Tryd.ntmps18
  go_wp2_with fail
  refine K.out.mono ?_
  rintro e w2 ⟨rfl, hd⟩
  go_wp2_with fail
  go_ret
  exact ⟨rfl, hd⟩
end PriB
end Go.Proofs.YtfdpelokiljigaaDoor
/- Small terms: what the laws' bound on parts and levels counts. Conditions: none on the term (it stops early). -/
namespace Go.Proofs.YtfdpelokiljigaaDoor
open Go Go.RowKit
namespace TermS
open LexM TermM TermI Kit TermN
def partsT (M : Nat) : Nat → Tm → Nat
  | 0, _ => M + 1
  | d + 1, .mk _ l => l.foldl (fun n t => if M < n then n else n + partsT M d t) 1
def upN (M d : Nat) (l : List Tm) : Nat := l.foldl (fun n t => if M < n then n else n + partsT M d t) 1
theorem upN_next (M d : Nat) (l : List Tm) (k : Nat) (t : Tm) (h : l[k]? = some t) : upN M d (l.take (k + 1)) = if M < upN M d (l.take k) then upN M d (l.take k) else upN M d (l.take k) + partsT M d t := by
  unfold upN
  rw [take_get l k t h, List.foldl_append]
  rfl
theorem stuck (M d : Nat) : ∀ (l : List Tm) (n : Nat), M < n → l.foldl (fun n t => if M < n then n else n + partsT M d t) n = n
  | [], n, h => rfl
  | t :: l, n, h => by rw [List.foldl_cons, if_pos h]; exact stuck M d l n h
theorem upN_stuck (M d : Nat) (l : List Tm) (k : Nat) (h : M < upN M d (l.take k)) : upN M d l = upN M d (l.take k) := by
  have e : upN M d l = (l.drop k).foldl (fun n t => if M < n then n else n + partsT M d t) (upN M d (l.take k)) := by
    unfold upN
    rw [← List.foldl_append, List.take_append_drop]
  rw [e]
  exact stuck M d _ _ h
theorem parts_le (M : Nat) : ∀ (d : Nat) (t : Tm), partsT M d t ≤ (d + 1) * (M + 1)
  | 0, _ => by simp [partsT]
  | d + 1, .mk n l => by
    have key : ∀ (l : List Tm) (n : Nat), n ≤ (d + 2) * (M + 1) → l.foldl (fun n t => if M < n then n else n + partsT M d t) n ≤ (d + 2) * (M + 1) := by
      intro l
      induction l with
      | nil => intro n h; exact h
      | cons t l ih =>
        intro n h
        rw [List.foldl_cons]
        apply ih
        split
        · exact h
        · have := parts_le M d t
          have e : (d + 2) * (M + 1) = (d + 1) * (M + 1) + (M + 1) := by rw [show d + 2 = d + 1 + 1 from rfl, Nat.succ_mul]
          omega
    simp only [partsT]
    exact key l 1 (by have e : (d + 2) * (M + 1) = (d + 1) * (M + 1) + (M + 1) := by rw [show d + 2 = d + 1 + 1 from rfl, Nat.succ_mul]
                      omega)
theorem parts_size (M : Nat) : ∀ (d : Nat) (t : Tm), partsT M d t ≤ M → sizeT t = partsT M d t ∧ depthT t ≤ d
  | 0, _, h => by simp [partsT] at h; omega
  | d + 1, .mk n l, h => by
    have key : ∀ (l : List Tm) (n : Nat), l.foldl (fun n t => if M < n then n else n + partsT M d t) n ≤ M → l.foldl (fun n t => if M < n then n else n + partsT M d t) n = n + sizeL l ∧ depthL l ≤ d := by
      intro l
      induction l with
      | nil => intro n h; simp [sizeL, depthL]
      | cons t l ih =>
        intro n h
        rw [List.foldl_cons] at h ⊢
        by_cases c : M < n
        · rw [if_pos c, stuck M d l n c] at h
          omega
        · rw [if_neg c] at h ⊢
          obtain ⟨h1, h2⟩ := ih _ h
          obtain ⟨h3, h4⟩ := parts_size M d t (by omega)
          simp only [sizeL, depthL]
          omega
    simp only [partsT] at h ⊢
    obtain ⟨h1, h2⟩ := key l 1 h
    simp only [sizeT, depthT]
    omega
set_option maxRecDepth 100000 in
set_option maxHeartbeats 1600000 in
theorem parts_any (D : Nat) : ∀ (t : Tm) (B : Nat) (w : World) (sv : Value), D ≤ 40 → B ≤ w.heap.size → SlIn (· < B) w t.args sv →
    Calls Tryd.prog 45 #[.agg #[.string t.nm, sv], .int .i64 40, .int .i64 D] w fun e w' => e = .returned (.int .i64 (partsT 40 D t)) ∧ Gr w w' := by
  induction D with
  | zero =>
    intro t B w sv hD hB h
    obtain ⟨p, c, rfl, hn, hc, hm, hR⟩ := h.row
    clear hR h
    go_enter Tryd.func45, Tryd.ntmps45
    go_wp2_with fail
    go_ret
    exact ⟨rfl, Gr.alloc _ _⟩
  | succ D ih =>
    rintro ⟨n, l⟩ B w sv hD hB h
    dsimp only [Tm.args, Tm.nm] at h ⊢
    obtain ⟨p, c, rfl, hn, hc, hm, hR⟩ := h.row
    obtain ⟨E, hE⟩ : ∃ E : Int, E = ((D + 1 : Nat) : Int) := ⟨_, rfl⟩
    rw [← hE]
    have hE1 : 1 ≤ E := by omega
    have hE2 : E ≤ 40 := by omega
    have hE3 : (D : Int) = E - 1 := by omega
    have IH : Hid (∀ (t : Tm) (w : World) (v : Value), B ≤ w.heap.size → SlIn (· < B) w t.args v → Calls Tryd.prog 45 #[.agg #[.string t.nm, v], .int .i64 40, .int .i64 (E - 1)] w fun e w' => e = .returned (.int .i64 (partsT 40 D t)) ∧ Gr w w') :=
      Lib.hid (fun t w v hB h => by rw [← hE3]; exact ih t B w v (by omega) hB h)
    clear hE3 hE
    have NX := Lib.hid (upN_next 40 D l)
    have ST := Lib.hid (upN_stuck 40 D l)
    have PB : Hid (∀ t, partsT 40 D t ≤ 2000) := Lib.hid (fun t => by
      have h1 := parts_le 40 D t
      have h2 : (D + 1) * (40 + 1) ≤ 41 * 41 := Nat.mul_le_mul_right 41 (by omega)
      omega)
    have UB : Hid (∀ k, upN 40 D (l.take k) ≤ 2000) := Lib.hid (fun k => by
      have h1 : upN 40 D (l.take k) = partsT 40 (D + 1) (.mk n (l.take k)) := by simp only [partsT]; rfl
      have h2 := parts_le 40 (D + 1) (.mk n (l.take k))
      have h3 : (D + 1 + 1) * (40 + 1) ≤ 41 * 41 := Nat.mul_le_mul_right 41 (by omega)
      omega)
    have FL : Hid (upN 40 D (l.take l.length) = upN 40 D l) := Lib.hid (by simp)
    have RT : Hid (partsT 40 (D + 1) (.mk n l) = upN 40 D l) := Lib.hid (by simp only [partsT]; rfl)
    have U0 : Hid (upN 40 D (l.take 0) = 1) := Lib.hid (by simp [upN])
    have HB := Lib.hid hB
    have HR := Lib.hid hR
    generalize partsT 40 (D + 1) (.mk n l) = R at *
    generalize hm' : l.length = m at *
    have HM := Lib.hid hm'
    clear ih hR h hm' hn
    unfold maxLen at hm
    go_enter Tryd.func45, Tryd.ntmps45
    go_wp2_with fail
    go_loopw [7, 16] (fun d i wr => ∃ k : Nat, k ≤ m ∧ i = .int .i64 k ∧ d = .int .i64 (upN 40 D (l.take k)) ∧ Hid (Gr (w.alloc (.cells #[.string n, .slice p m c] 24)) wr)) (fun _ i _ => m - (intOf i).toNat)
    case atStart => exact ⟨0, Nat.zero_le _, rfl, by rw [U0.out]; rfl, Lib.hid (Gr.refl _)⟩
    case round =>
      obtain ⟨k, hk, rfl, rfl, hg⟩ := hrel
      have hd := UB.out k
      by_cases hlt : k < m
      · obtain ⟨t, b, o, q, d, ht, rfl, hb, c1, c2, hs, hts⟩ := (HR.out.gr ((Gr.alloc _ _).trans hg.out) HB.out) k (by rw [HM.out]; exact hlt)
        obtain ⟨b0, b1, _, _, hbl⟩ := (hg.out.has (Has.new w _ _)).two
        have n1 := NX.out k t ht
        have n2 := PB.out t
        by_cases hst : 40 < upN 40 D (l.take k)
        · have HF := Lib.hid (ST.out k hst)
          clear n1
          go_wp2_with fail
          go_ret
          exact ⟨ret_int (by rw [RT.out, HF.out]), (Gr.alloc _ _).trans hg.out⟩
        · rw [if_neg hst] at n1
          have HD := Lib.hid n1
          have HS := Lib.hid hs
          clear n1 ht hs
          have hst' : upN 40 D (l.take k) ≤ 40 := by omega
          go_wp2_with fail
          refine (IH.out _ _ _ (Nat.le_trans HB.out ((Gr.alloc _ _).trans hg.out).size) HS.out).mono ?_
          rintro e w' ⟨rfl, g2⟩
          have hg2 := Lib.hid (hg.out.trans g2)
          clear g2
          go_wp2_with fail
          go_roundw
          case rel => exact ⟨k + 1, by omega, by go_num, by rw [HD.out]; first | rfl | (congr 1; omega), hg2⟩
          case measure => simp [intOf]; omega
      · obtain rfl : k = m := by omega
        have HF := Lib.hid FL.out
        go_wp2_with fail
        go_ret
        exact ⟨ret_int (by rw [RT.out, HF.out]), (Gr.alloc _ _).trans hg.out⟩
theorem small_any (t : Tm) (B : Nat) (w : World) (sv : Value) (hB : B ≤ w.heap.size) (h : SlIn (· < B) w t.args sv) :
    Calls Tryd.prog 31 #[.agg #[.string t.nm, sv], .int .i64 40] w fun e w' => e = .returned (.bool (decide (partsT 40 40 t ≤ 40))) ∧ Gr w w' := by
  obtain ⟨p, c, rfl, hn, hc, hm, hR⟩ := h.row
  have HC : Hid (Calls Tryd.prog 45 #[.agg #[.string t.nm, .slice p t.args.length c], .int .i64 40, .int .i64 40] (w.alloc (.cells #[.string t.nm, .slice p t.args.length c] 24)) fun e w' => e = .returned (.int .i64 (partsT 40 40 t)) ∧ Gr (w.alloc (.cells #[.string t.nm, .slice p t.args.length c] 24)) w') :=
    Lib.hid (parts_any 40 t B _ _ (by omega) (Nat.le_trans hB (Gr.alloc _ _).size) (h.gr (Gr.alloc _ _) hB))
  clear hR h hn
  go_enter Tryd.func31, Tryd.ntmps31
  go_wp2_with fail
  refine HC.out.mono ?_
  rintro e w' ⟨rfl, g2⟩
  have hg2 := Lib.hid ((Gr.alloc _ _).trans g2)
  clear g2
  go_wp2_with fail
  go_ret
  exact ⟨ret_bool (by rw [Bool.eq_iff_iff]; simp; omega), hg2.out⟩
theorem smalls_any (l : List Tm) (B : Nat) (w : World) (v : Value) (hB : B ≤ w.heap.size) (h : SlIn (· < B) w l v) :
    Calls Tryd.prog 17 #[v, .int .i64 40] w fun e w' => e = .returned (.bool (decide (l.length ≤ 40) && l.all fun t => decide (partsT 40 40 t ≤ 40))) ∧ Gr w w' := by
  obtain ⟨p, c, rfl, hn, hc, hm, hR⟩ := h.row
  unfold maxLen at hm
  by_cases h40 : 40 < l.length
  · have HF : Hid ((decide (l.length ≤ 40) && l.all fun t => decide (partsT 40 40 t ≤ 40)) = false) := by rw [decide_eq_false (by omega)]; exact rfl
    generalize hm' : l.length = m at *
    clear h hR hm'
    go_enter Tryd.func17, Tryd.ntmps17
    go_wp2_with fail
    go_ret
    exact ⟨ret_bool HF.out.symm, Gr.refl _⟩
  · have HF : Hid ((decide (l.length ≤ 40) && l.all fun t => decide (partsT 40 40 t ≤ 40)) = l.all fun t => decide (partsT 40 40 t ≤ 40)) := by rw [decide_eq_true (by omega)]; exact rfl
    have NX : Hid (∀ k t, l[k]? = some t → ((l.take (k + 1)).all fun t => decide (partsT 40 40 t ≤ 40)) = (((l.take k).all fun t => decide (partsT 40 40 t ≤ 40)) && decide (partsT 40 40 t ≤ 40))) := Lib.hid (fun k t h => by
      rw [take_get l k t h, List.all_append]; simp)
    have NO : Hid (∀ k t, l[k]? = some t → decide (partsT 40 40 t ≤ 40) = false → (l.all fun t => decide (partsT 40 40 t ≤ 40)) = false) := Lib.hid (fun k t h1 h2 => by
      rw [List.all_eq_false]; exact ⟨t, List.mem_of_getElem? h1, by simpa using h2⟩)
    have FL : Hid (l.take l.length = l) := Lib.hid (by simp)
    have HB := Lib.hid hB
    have HR := Lib.hid hR
    generalize (decide (l.length ≤ 40) && l.all fun t => decide (partsT 40 40 t ≤ 40)) = R at *
    have SM := Lib.hid (fun t w sv hB h => small_any t B w sv hB h)
    have h40' : l.length ≤ 40 := by omega
    generalize hm' : l.length = m at *
    have HM := Lib.hid hm'
    clear hR h hm' hn h40
    go_enter Tryd.func17, Tryd.ntmps17
    go_wp2_with fail
    go_loopw [12] (fun i wr => ∃ k : Nat, k ≤ m ∧ i = .int .i64 k ∧ Hid (((l.take k).all fun t => decide (partsT 40 40 t ≤ 40)) = true) ∧ Hid (Gr w wr)) (fun i _ => m - (intOf i).toNat)
    case atStart => exact ⟨0, Nat.zero_le _, rfl, Lib.hid rfl, Lib.hid (Gr.refl _)⟩
    case round =>
      obtain ⟨k, hk, rfl, hA, hg⟩ := hrel
      by_cases hlt : k < m
      · obtain ⟨t, b, o, q, d, ht, rfl, hb, c1, c2, hs, hts⟩ := (HR.out.gr hg.out HB.out) k (by rw [HM.out]; exact hlt)
        have HS := Lib.hid hs
        have N1 := Lib.hid (NX.out k t ht)
        have N2 := Lib.hid (NO.out k t ht)
        clear ht hs
        go_wp2_with fail
        refine (SM.out t _ _ (Nat.le_trans HB.out hg.out.size) HS.out).mono ?_
        rintro e w' ⟨rfl, g2⟩
        have hg2 := Lib.hid (hg.out.trans g2)
        clear g2
        cases hdc : decide (partsT 40 40 t ≤ 40)
        · have HF2 := Lib.hid (N2.out hdc)
          go_wp2_with fail
          go_ret
          exact ⟨ret_bool (by rw [HF.out, HF2.out]), hg2.out⟩
        · have HA2 : Hid (((l.take (k + 1)).all fun t => decide (partsT 40 40 t ≤ 40)) = true) := by rw [N1.out, hA.out, hdc]; exact rfl
          go_wp2_with fail
          go_roundw
          case rel => exact ⟨k + 1, by omega, by go_num, HA2, hg2⟩
          case measure => simp [intOf]; omega
      · obtain rfl : k = m := by omega
        have HF2 : Hid (R = true) := by rw [HF.out, ← hA.out, FL.out]; exact rfl
        go_wp2_with fail
        go_ret
        exact ⟨ret_bool HF2.out.symm, hg.out⟩
end TermS
end Go.Proofs.YtfdpelokiljigaaDoor
/- The contracts of the functions on bytes, of the code and of the reference, and of the reserved words (layer 1). No conditions. -/
namespace Go.Proofs.YtfdpelokiljigaaDoor
open Go Go.RowKit
namespace TermA
open Kit LexM
theorem lower_any (n : Int) (w : World) :
    Calls Tryd.prog 72 #[.int .u8 n] w fun e w' => e = .returned (.bool (loB n)) ∧ w = w' := by
  go_enter Tryd.func72, Tryd.ntmps72
  go_wp2
  all_goals
    go_ret
    exact ⟨ret_bool (by unfold loB; first | rfl | (rw [Bool.eq_iff_iff]; simp <;> omega) | (rw [Bool.eq_iff_iff]; simp [*])), rfl⟩
theorem upper_any (n : Int) (w : World) :
    Calls Tryd.prog 111 #[.int .u8 n] w fun e w' => e = .returned (.bool (upB n)) ∧ w = w' := by
  go_enter Tryd.func111, Tryd.ntmps111
  go_wp2
  all_goals
    go_ret
    exact ⟨ret_bool (by unfold upB; first | rfl | (rw [Bool.eq_iff_iff]; simp <;> omega) | (rw [Bool.eq_iff_iff]; simp [*])), rfl⟩
theorem digit_any (n : Int) (w : World) :
    Calls Tryd.prog 74 #[.int .u8 n] w fun e w' => e = .returned (.bool (dgB n)) ∧ w = w' := by
  go_enter Tryd.func74, Tryd.ntmps74
  go_wp2
  all_goals
    go_ret
    exact ⟨ret_bool (by unfold dgB; first | rfl | (rw [Bool.eq_iff_iff]; simp <;> omega) | (rw [Bool.eq_iff_iff]; simp [*])), rfl⟩
theorem rlower_any (n : Int) (w : World) :
    Calls Tryd.prog 77 #[.int .u8 n] w fun e w' => e = .returned (.bool (loB n)) ∧ w = w' := by
  go_enter Tryd.func77, Tryd.ntmps77
  go_wp2
  all_goals
    go_ret
    exact ⟨ret_bool (by unfold loB; first | rfl | (rw [Bool.eq_iff_iff]; simp <;> omega) | (rw [Bool.eq_iff_iff]; simp [*])), rfl⟩
theorem rupper_any (n : Int) (w : World) :
    Calls Tryd.prog 119 #[.int .u8 n] w fun e w' => e = .returned (.bool (upB n)) ∧ w = w' := by
  go_enter Tryd.func119, Tryd.ntmps119
  go_wp2
  all_goals
    go_ret
    exact ⟨ret_bool (by unfold upB; first | rfl | (rw [Bool.eq_iff_iff]; simp <;> omega) | (rw [Bool.eq_iff_iff]; simp [*])), rfl⟩
theorem rdigit_any (n : Int) (w : World) :
    Calls Tryd.prog 78 #[.int .u8 n] w fun e w' => e = .returned (.bool (dgB n)) ∧ w = w' := by
  go_enter Tryd.func78, Tryd.ntmps78
  go_wp2
  all_goals
    go_ret
    exact ⟨ret_bool (by unfold dgB; first | rfl | (rw [Bool.eq_iff_iff]; simp <;> omega) | (rw [Bool.eq_iff_iff]; simp [*])), rfl⟩
theorem res_any (s : ByteArray) (w : World) :
    Calls Tryd.prog 73 #[.string s] w fun e w' => e = .returned (.bool (resB s.data.toList)) ∧ w = w' := by
  have E := Lib.hid (ByteArray.toList_eq s)
  go_enter Tryd.func73, Tryd.ntmps73
  go_wp2
  all_goals
    go_ret
    exact ⟨ret_bool (by rw [← E.out]; simp [resB, *]), rfl⟩
end TermA
end Go.Proofs.YtfdpelokiljigaaDoor
