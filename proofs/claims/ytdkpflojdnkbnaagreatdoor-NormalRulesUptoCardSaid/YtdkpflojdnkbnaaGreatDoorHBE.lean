/- Texts laid together: NorD; NorE; NorF; NorK. Their own heads stand before each. -/
import Derived.Test.YtdkpflojdnkbnaaGreatDoorHAE
import Derived.Test.YtdkpflojdnkbnaaGreatDoorHShelf
import Derived.Test.YtdkpflojdnkbnaaGreatDoorHAI
import Derived.Test.YtdkpflojdnkbnaaGreatDoorHAJ
import Derived.Deep.DeepCutAuto
import Derived.Test.YtdkpflojdnkbnaaGreatDoorHAL
import Derived.Laws.OwnMore
/- The printer as plain functions, and the row of texts that join fills. No conditions. -/
namespace Go.Proofs.YtdkpflojdnkbnaaGreatDoor
open Go Go.RowKit
namespace NorD
open LexM TermM UniM UniK Kit
def litX (x : Lt) : List UInt8 := (if x.1 then [110, 111, 116, 32] else []) ++ textT x.2
def bodyX (l : List Lt) : List UInt8 := Lib.join (l.map litX) [32, 97, 110, 100, 32]
def ruleX (r : Rl) : List UInt8 := textT r.1 ++ (if r.2.isEmpty then [] else [32, 105, 102, 32] ++ bodyX r.2) ++ [46]
/-- A text as a string. -/
def bs (l : List UInt8) : ByteArray := ⟨l.toArray⟩
theorem bs_list (l : List UInt8) : (bs l).data.toList = l := by simp [bs]
theorem bs_size (l : List UInt8) : (bs l).size = l.length := by show Array.size _ = _; simp
/-- The row of texts with the first k filled in. -/
def srow (X : List (List UInt8)) (k : Nat) : List Value := (X.take k).map (fun x => Value.string (bs x)) ++ List.replicate (X.length - k) (.string ⟨#[]⟩)
theorem srow_get {X : List (List UInt8)} {k : Nat} (h : k < X.length) : (srow X k)[k]? = some (.string ⟨#[]⟩) := by
  unfold srow
  rw [List.getElem?_append_right (by simp; omega)]
  simp [List.getElem?_replicate]
  omega
theorem srow_set {X : List (List UInt8)} {k : Nat} {x : List UInt8} (h : X[k]? = some x) : (srow X k).set k (.string (bs x)) = srow X (k + 1) := by
  have hk := (List.getElem?_eq_some_iff.1 h).1
  unfold srow
  rw [List.set_append_right _ _ (by simp; omega), take_get X k x h, List.map_append, List.append_assoc]
  congr 1
  rw [List.length_map, show (X.take k).length = k by simp; omega, Nat.sub_self, show X.length - k = (X.length - (k + 1)) + 1 by omega, List.replicate_succ, List.set_cons_zero]
  rfl
theorem srow_end (X : List (List UInt8)) : srow X X.length = (X.map bs).map Value.string := by
  unfold srow
  simp
theorem Tryz.infoS : (Tryz.prog.info? 9).map (fun i => (i.zero, i.size, i.bytes)) = some (some (.string ⟨#[]⟩), 1, 16) := by kernel_rfl
theorem make_any (w : World) (X : List (List UInt8)) (n : Nat) (h : X.length = n) (hn : n ≤ 1000000) : ∃ w', (Instr.makeSlice 56 (.int .i64 n) (.int .i64 n)).run Tryz.prog w = .ok (.slice (some ⟨w.heap.size, 0, none⟩) n n) w' ∧ w'.ownsRow w.heap.size 9 1 (.slice (some ⟨w.heap.size, 0, none⟩) n n) n (srow X 0) ∧ w.grownBy w' none := by
  obtain ⟨i, hi, hz, hs, hb⟩ := info_parts Tryz.infoS
  obtain ⟨w', h1, h2, h3⟩ := run_make_full (P := Tryz.prog) w w.heap.size 56 9 i (.string ⟨#[]⟩) 1 Tryz.underlying56 hi hz hs .i64 .i64 n (by rw [hb]; omega) (by unfold maxLen; omega) (Nat.le_refl _)
  refine ⟨w', h1, ?_, h3⟩
  have e : (madeCells (Value.string ⟨#[]⟩).cells (n * 1)).toList = srow X 0 := by
    rw [Nat.mul_one, show (Value.string ⟨#[]⟩).cells = #[.string ⟨#[]⟩] from rfl, toList_madeCells_one]
    simp [srow, h]
  rw [e] at h2
  exact h2
/-- strings.Join over a row of one's own. -/
theorem join_row (X : List (List UInt8)) (n g base : Nat) (sep : ByteArray) (w : World) (h : X.length = n) (hn : n ≤ 1000000) (ho : w.ownsRow base 9 1 (.slice (some ⟨g, 0, none⟩) n n) n (srow X n)) (hz : (Lib.join X sep.data.toList).length ≤ 140737488355328) :
    Calls Tryz.prog 122 #[.slice (some ⟨g, 0, none⟩) n n, .string sep] w fun e w' => e = .returned (.string (bs (Lib.join X sep.data.toList))) ∧ Below w.heap.size w w' := by
  subst h
  have e : (X.map bs).map (·.data.toList) = X := by
    rw [List.map_map]
    conv => rhs; rw [← List.map_id X]
    exact List.map_congr_left (fun x _ => bs_list x)
  have hg := (World.ownsRow.lt ho g rfl).2
  have K := Tryz.strings_Join g 0 X.length (X.map bs) sep w (fun j x hx => ?_) hg (by simp; omega) (by simp) (by rw [e]; exact hz)
  · rw [e, List.length_map] at K
    exact K
  · have hj := (List.getElem?_eq_some_iff.1 hx).1
    rw [List.length_map] at hj
    rw [Nat.zero_add, ho.cellAt j (by omega), srow_end, List.getElem?_map, hx]
    rfl
end NorD
end Go.Proofs.YtdkpflojdnkbnaaGreatDoor
/- The code's Literal, and join at literals. Conditions: texts of at most 10^8 bytes, in all at most 2^47. -/
namespace Go.Proofs.YtdkpflojdnkbnaaGreatDoor
open Go Go.RowKit
namespace NorE
open LexM TermM TermI Kit TermN TermU TermT UniM UniK UnpP NorD
theorem own_below {w w' : World} {base B : Nat} {e : TypeId} {size n : Nat} {v : Value} {xs : List Value} (h : w.ownsRow base e size v n xs) (hb : Below B w w') (hB : ∀ g, v.ownBlock = some g → g < B) : w'.ownsRow base e size v n xs := by
  refine ⟨h.1, ?_⟩
  rcases h.2 with h | ⟨g, cap, cur, e1, e2, e3, e4⟩
  · exact Or.inl h
  · exact Or.inr ⟨g, cap, cur, e1, e2, (hb.block g (hB g (by rw [e1]; rfl))).trans e3, e4⟩
theorem hmf : ∀ (fn : Fn) (first cap : Array Value) (w : World), (Instr.makeFunc fn first cap).run Tryz.prog w = .ok (.func fn first cap) w := fun _ _ _ _ => rfl
theorem _root_.Go.Proofs.YtdkpflojdnkbnaaGreatDoor.UniK.LIn.gr {B : Nat} {w w' : World} {l : List Lt} {v : Value} (h : LIn (· < B) w l v) (g : Gr w w') (hB : B ≤ w.heap.size) : LIn (· < B) w' l v := h.keep fun _ _ hb => g.cell (Nat.lt_of_lt_of_le hb hB)
theorem three {w : World} {g : Nat} {a b c : Value} (h : Has w g #[a, b, c]) : w.cell? ⟨g, 0, none⟩ = some a ∧ w.cell? ⟨g, 1, none⟩ = some b ∧ w.cell? ⟨g, 2, none⟩ = some c := ⟨h.cell 0, h.cell 1, h.cell 2⟩
theorem _root_.Go.Proofs.YtdkpflojdnkbnaaGreatDoor.UnpP.RowL.deep {B B' : Nat} {w w' : World} {l : List Lt} {p : Option Addr} (h : RowL B w l p) (g : Below B' w w') (hB : B ≤ B') : RowL B w' l p := fun k hk => by
  obtain ⟨t, b, o, q, d, h1, h2, h3, h4, h5, h6, h7, h8⟩ := h k hk
  have hc : ∀ j, w'.cell? ⟨b, j, none⟩ = w.cell? ⟨b, j, none⟩ := fun j => g.cell (p := ⟨b, j, none⟩) (Nat.lt_of_lt_of_le h3 hB)
  exact ⟨t, b, o, q, d, h1, h2, h3, (hc _).trans h4, (hc _).trans h5, (hc _).trans h6, h7.deep g hB, h8⟩
theorem bs_app (a b : List UInt8) : bs a ++ bs b = bs (a ++ b) := by
  apply ByteArray.ext
  apply Array.ext'
  simp [bs]
theorem bs_lit (x : Lt) : (if x.1 then ⟨#[110, 111, 116, 32]⟩ ++ bs (textT x.2) else bs (textT x.2)) = bs (litX x) := by
  obtain ⟨b, t⟩ := x
  cases b
  · rfl
  · exact bs_app [110, 111, 116, 32] (textT t)
theorem text_bs (t : Tm) (B : Nat) (w : World) (sv : Value) (hw : Wd w) (hB : B ≤ w.heap.size) (h : SlIn (· < B) w t.args sv) (hz : (textT t).length ≤ 100000000) :
    Calls Tryz.prog 87 #[.agg #[.string t.nm, sv]] w fun e w' => e = .returned (.string (bs (textT t))) ∧ Below w.heap.size w w' := text_any t B w sv hw hB h hz
set_option maxHeartbeats 1600000 in
theorem lit_any (x : Lt) (B : Nat) (w : World) (sv : Value) (hw : Wd w) (hB : B ≤ w.heap.size) (h : SlIn (· < B) w x.2.args sv) (hz : (textT x.2).length ≤ 100000000) :
    Calls Tryz.prog 89 #[.agg #[.bool x.1, .string x.2.nm, sv]] w fun e w' => e = .returned (.string (bs (litX x))) ∧ Below w.heap.size w w' := by
  obtain ⟨p, c, rfl⟩ := h.form
  have K := Lib.hid (text_bs x.2 B (w.alloc (.cells #[.bool x.1, .string x.2.nm, .slice p x.2.args.length c] 47)) (.slice p x.2.args.length c) (hw.below (below_alloc w _) hw.1) (by simp; omega) (h.gr (Gr.alloc _ _) hB) hz)
  have X := bs_lit x
  have KB : (bs (textT x.2)).size ≤ 100000000 := by rw [bs_size]; exact hz
  have P := Lib.hid (fun w' => run_string_add_sum (P := Tryz.prog) w' ⟨#[110, 111, 116, 32]⟩ (bs (textT x.2)) (by rw [bs_size]; show 4 + (textT x.2).length ≤ _; omega))
  clear KB
  generalize bs (textT x.2) = S at *
  generalize x.1 = nt at *
  obtain ⟨nt', xt⟩ := x
  dsimp only at *
  generalize litX _ = L at *
  clear h hw hz
  go_enter Tryz.func89, Tryz.ntmps89
  go_wp2_with fail
  refine K.out.mono ?_
  rintro e w2 ⟨rfl, hd⟩
  have H := (Has.new w 47 #[.bool nt, .string xt.nm, .slice p xt.args.length c]).below hd (by simp)
  obtain ⟨x1, x2, x3⟩ := three H
  have D2 := Lib.hid ((below_alloc w (.cells #[.bool nt, .string xt.nm, .slice p xt.args.length c] 47)).trans (hd.mono (by simp)))
  clear hd H
  have p1 := P.out
  cases nt
  · go_wp2_with fail
    go_ret
    exact ⟨by rw [← X]; rfl, D2.out⟩
  · go_wp2_with fail
    go_ret
    exact ⟨by rw [← X]; rfl, D2.out⟩
set_option maxRecDepth 100000 in
set_option maxHeartbeats 6400000 in
theorem jlits_any (l : List Lt) (B : Nat) (w : World) (sv : Value) (sep : ByteArray) (hw : Wd w) (hB : B ≤ w.heap.size) (h : LIn (· < B) w l sv) (hn : l.length ≤ 1000000) (ht : ∀ t ∈ l, (textT t.2).length ≤ 100000000)
    (hz : (Lib.join (l.map litX) sep.data.toList).length ≤ 140737488355328) :
    Calls Tryz.prog 88 #[sv, .string sep, .func (.func 89) #[] #[]] w fun e w' => e = .returned (.string (bs (Lib.join (l.map litX) sep.data.toList))) ∧ Below w.heap.size w w' := by
  obtain ⟨p, c, rfl, hc, hm, hR⟩ := LIn.row h
  have HR := Lib.hid hR
  have HW := Lib.hid hw
  have HB := Lib.hid hB
  have hg1 := hw.1
  obtain ⟨wm, M, O, G⟩ := make_any w (l.map litX) l.length (by simp) hn
  have O0 := Lib.hid O
  have B0 := Lib.hid ((Below.refl w.heap.size w).grown G (Nat.le_refl _) (fun k h => by cases h))
  have RG := Lib.hid (fun k (h : k < l.length) => srow_get (X := l.map litX) (k := k) (by simpa using h))
  have RS := Lib.hid (fun k x (h : (l.map litX)[k]? = some x) => srow_set h)
  have JN := Lib.hid (fun (w' : World) (ho : w'.ownsRow w.heap.size 9 1 (.slice (some ⟨w.heap.size, 0, none⟩) l.length l.length) l.length (srow (l.map litX) l.length)) => join_row (l.map litX) l.length w.heap.size w.heap.size sep w' (by simp) hn ho hz)
  have TX := Lib.hid (fun k t (h : l[k]? = some t) (w' : World) (sv : Value) (hw : Wd w') (hb : B ≤ w'.heap.size) (hs : SlIn (· < B) w' t.2.args sv) => lit_any t B w' sv hw hb hs (ht t (List.mem_of_getElem? h)))
  have GB : w.heap.size < wm.heap.size := by
    have := World.ownsRow.lt O0.out w.heap.size rfl
    omega
  have LT := Lib.hid (fun k t (h : l[k]? = some t) => show (l.map litX)[k]? = some (litX t) by rw [List.getElem?_map, h]; rfl)
  generalize Lib.join (l.map litX) sep.data.toList = J at *
  have SZ := Lib.hid (Nat.le_refl w.heap.size)
  clear O G hw hB hR h ht hz
  generalize l.map litX = X at *
  generalize hlm : l.length = m at *
  have HM := Lib.hid hlm
  clear hlm
  generalize hg0 : w.heap.size = g0 at *
  go_enter Tryz.func88, Tryz.ntmps88
  go_wp2_with fail
  go_loopw [15] (fun i wL => ∃ k : Nat, k ≤ m ∧ i = .int .i64 k ∧ Hid (wL.ownsRow g0 9 1 (.slice (some ⟨g0, 0, none⟩) m m) m (srow X k)) ∧ Hid (Below g0 w wL)) (fun i _ => m - (intOf i).toNat)
  case atStart => exact ⟨0, by omega, rfl, O0, B0⟩
  case round =>
    obtain ⟨k, hk, rfl, hO, hD⟩ := hrel
    by_cases hlt : k < m
    · obtain ⟨t, b, o, q, d, ht, rfl, hb, c1, c2, c3, hs, hts⟩ := (RowL.deep HR.out hD.out HB.out) k (by rw [HM.out]; exact hlt)
      have x1 := (hO.out.cellAt k (by omega)).trans (RG.out k hlt)
      have x2 := hO.out.frozenAt k
      have T1 := Lib.hid (TX.out k t ht)
      have S1 : Hid ((srow X k).set k (.string (bs (litX t))) = srow X (k + 1)) := Lib.hid (RS.out k _ (LT.out k t ht))
      have hsz := hD.out.size
      have gl := (World.ownsRow.lt hO.out g0 rfl).2
      have HS := Lib.hid hs
      clear ht hs hts
      go_wp2_with fail
      refine (T1.out _ _ (HW.out.below (hD.out.alloc (by omega) _) hg1) (by have := HB.out; simp; omega) (HS.out.gr (Gr.alloc _ _) (by have := HB.out; omega))).mono ?_
      rintro e w5 ⟨rfl, hd5⟩
      have O5 := Lib.hid (own_below (hO.out.alloc _) hd5 (fun g h => by cases h; simp; omega))
      have D5 := Lib.hid ((hD.out.alloc (by omega) _).trans (hd5.mono (by simp; omega)))
      have y1 := (O5.out.cellAt k (by omega)).trans (RG.out k hlt)
      have y2 := O5.out.frozenAt k
      have ST := Lib.hid (O5.out.stored k (.string (bs (litX t))))
      have hsz5 := D5.out.size
      clear hd5 x1 x2 c1 c2 c3
      generalize litX t = xt at *
      go_wp2_with fail
      go_roundw
      case rel =>
        refine ⟨k + 1, by omega, by go_num, ?_, ?_⟩
        · have h := ST.out.1
          rw [S1.out] at h
          exact Lib.hid h
        · exact Lib.hid (D5.out.grown ST.out.2 (by omega) (fun k h => by cases h; exact Nat.le_refl _))
      case measure => simp [intOf] <;> omega
    · obtain rfl : k = m := by omega
      have J1 := Lib.hid (JN.out wr hO.out)
      go_wp2_with fail
      refine J1.out.mono ?_
      rintro e w5 ⟨rfl, hd5⟩
      have D5 := Lib.hid (hD.out.trans (hd5.mono (by have := hD.out.size; omega)))
      clear hd5
      go_wp2_with fail
      go_ret
      exact ⟨rfl, D5.out⟩
end NorE
end Go.Proofs.YtdkpflojdnkbnaaGreatDoor
/- The code's Rule and Terms of the printer. Conditions: texts of at most 10^8 bytes, in all at most 2^47. -/
namespace Go.Proofs.YtdkpflojdnkbnaaGreatDoor
open Go Go.RowKit
namespace NorF
open LexM TermM TermI Kit TermN TermU TermT UniM UniK UnpP NorD NorE
/-- The sizes that a rule's text is made under. -/
def Sm (r : Rl) : Prop := (textT r.1).length ≤ 100000000 ∧ r.2.length ≤ 1000000 ∧ (∀ x ∈ r.2, (textT x.2).length ≤ 100000000) ∧ (bodyX r.2).length ≤ 140737488355328
theorem bs_rule0 (t : Tm) : bs (textT t) ++ ⟨#[46]⟩ = bs (ruleX (t, [])) := by
  rw [show (⟨#[46]⟩ : ByteArray) = bs [46] from rfl, bs_app]
  simp [ruleX]
theorem bs_rule1 (t : Tm) (l : List Lt) (h : l ≠ []) : bs (textT t) ++ (⟨#[32, 105, 102, 32]⟩ ++ bs (bodyX l)) ++ ⟨#[46]⟩ = bs (ruleX (t, l)) := by
  rw [show (⟨#[46]⟩ : ByteArray) = bs [46] from rfl, show (⟨#[32, 105, 102, 32]⟩ : ByteArray) = bs [32, 105, 102, 32] from rfl, bs_app, bs_app, bs_app]
  have : l.isEmpty = false := by cases l <;> simp_all
  simp [ruleX, this]
set_option maxRecDepth 100000 in
set_option maxHeartbeats 3200000 in
theorem rule_any (r : Rl) (B : Nat) (w : World) (sa sl : Value) (hw : Wd w) (hB : B ≤ w.heap.size) (ha : SlIn (· < B) w r.1.args sa) (hl : LIn (· < B) w r.2 sl) (hz : Sm r) :
    Calls Tryz.prog 48 #[.agg #[.string r.1.nm, sa, sl]] w fun e w' => e = .returned (.string (bs (ruleX r))) ∧ Below w.heap.size w w' := by
  obtain ⟨t, l⟩ := r
  obtain ⟨z1, z2, z3, z4⟩ := hz
  dsimp only at *
  obtain ⟨p, c, rfl⟩ := ha.form
  obtain ⟨p', c', rfl⟩ := hl.form
  have hwa : Wd (w.alloc (.cells #[.string t.nm, .slice p t.args.length c, .slice p' l.length c'] 27)) := hw.below (below_alloc w _) hw.1
  have K := Lib.hid (text_bs t B (w.alloc (.cells #[.string t.nm, .slice p t.args.length c, .slice p' l.length c'] 27)) (.slice p t.args.length c) hwa (by simp; omega) (ha.gr (Gr.alloc _ _) hB) z1)
  have hl2 : LIn (· < B) (w.alloc (.cells #[.string t.nm, .slice p t.args.length c, .slice p' l.length c'] 27)) l (.slice p' l.length c') := hl.gr (Gr.alloc _ _) hB
  have K2 := Lib.hid (fun w2 (hb : Below (w.alloc (.cells #[.string t.nm, .slice p t.args.length c, .slice p' l.length c'] 27)).heap.size (w.alloc (.cells #[.string t.nm, .slice p t.args.length c, .slice p' l.length c'] 27)) w2) =>
    jlits_any l B w2 (.slice p' l.length c') ⟨#[32, 97, 110, 100, 32]⟩ (hwa.below hb hwa.1) (by have := hb.size; simp at this; omega) (hl2.keep (fun b o hlt => hb.cell (p := ⟨b, o, none⟩) (by simp; omega))) z2 z3 z4)
  have X0 := bs_rule0 t
  have X1 := bs_rule1 t l
  have zS : (bs (textT t)).size ≤ 100000000 := by rw [bs_size]; exact z1
  have zJ : (bs (bodyX l)).size ≤ 140737488355328 := by rw [bs_size]; exact z4
  have P0 := Lib.hid (fun w' => run_string_add_sum (P := Tryz.prog) w' (bs (textT t)) ⟨#[46]⟩ (by show _ + 1 ≤ _; omega))
  have P1 := Lib.hid (fun w' => run_string_add_sum (P := Tryz.prog) w' ⟨#[32, 105, 102, 32]⟩ (bs (bodyX l)) (by show 4 + _ ≤ _; omega))
  have P2 := Lib.hid (fun w' => run_string_add_sum (P := Tryz.prog) w' (bs (textT t)) (⟨#[32, 105, 102, 32]⟩ ++ bs (bodyX l)) (by rw [ByteArray.size_append]; show _ + (4 + _) ≤ _; omega))
  have P3 := Lib.hid (fun w' => run_string_add_sum (P := Tryz.prog) w' (bs (textT t) ++ (⟨#[32, 105, 102, 32]⟩ ++ bs (bodyX l))) ⟨#[46]⟩ (by rw [ByteArray.size_append, ByteArray.size_append]; show _ + (4 + _) + 1 ≤ _; omega))
  have E2 : bs (Lib.join (l.map litX) [32, 97, 110, 100, 32]) = bs (bodyX l) := rfl
  have K3 : Hid (∀ w2 : World, Below (w.alloc (.cells #[.string t.nm, .slice p t.args.length c, .slice p' l.length c'] 27)).heap.size (w.alloc (.cells #[.string t.nm, .slice p t.args.length c, .slice p' l.length c'] 27)) w2 →
    Calls Tryz.prog 88 #[.slice p' l.length c', .string ⟨#[32, 97, 110, 100, 32]⟩, .func (.func 89) #[] #[]] w2 fun e w' => e = .returned (.string (bs (bodyX l))) ∧ Below w2.heap.size w2 w') := Lib.hid K2.out
  have D0 := Lib.hid (below_alloc w (.cells #[.string t.nm, .slice p t.args.length c, .slice p' l.length c'] 27))
  have H0 := Lib.hid (Has.new w 27 #[.string t.nm, .slice p t.args.length c, .slice p' l.length c'])
  clear K2 E2 zS zJ z1 z2 z3 z4 hl2 hwa hw ha hl
  generalize bs (textT t) = S at *
  generalize bs (bodyX l) = J at *
  generalize hln : l.length = n at *
  by_cases h0 : l = []
  · subst h0
    obtain rfl : 0 = n := hln
    generalize bs (ruleX (t, [])) = R at *
    have p0 := P0.out
    clear P0 P1 P2 P3 K3 X1
    go_enter Tryz.func48, Tryz.ntmps48
    go_wp2_with fail
    refine K.out.mono ?_
    rintro e w2 ⟨rfl, hd⟩
    obtain ⟨x1, x2, x3⟩ := three (H0.out.below hd (by simp))
    have D2 := Lib.hid (D0.out.trans (hd.mono (by simp)))
    clear hd
    go_wp2_with fail
    go_ret
    exact ⟨rfl, D2.out⟩
  · have hg : ((n : Int) > 0) := by cases l <;> simp_all; omega
    have X1 := X1 h0
    generalize bs (ruleX (t, l)) = R at *
    have p1 := P1.out
    have p2 := P2.out
    have p3 := P3.out
    clear P0 P1 P2 P3 X0
    go_enter Tryz.func48, Tryz.ntmps48
    go_wp2_with fail
    refine K.out.mono ?_
    rintro e w2 ⟨rfl, hd⟩
    obtain ⟨x1, x2, x3⟩ := three (H0.out.below hd (by simp))
    have K4 := Lib.hid (K3.out w2 hd)
    have D2 := Lib.hid (D0.out.trans (hd.mono (by simp)))
    clear hd
    go_wp2_with fail
    refine K4.out.mono ?_
    rintro e w3 ⟨rfl, hd⟩
    have D3 := Lib.hid (D2.out.trans (hd.mono D2.out.size))
    clear hd
    go_wp2_with fail
    go_ret
    exact ⟨rfl, D3.out⟩
end NorF
end Go.Proofs.YtdkpflojdnkbnaaGreatDoor
/- eachRenaming of the code: a function is called at each renaming. Conditions: at most a hundred variables, what order_any wants. -/
namespace Go.Proofs.YtdkpflojdnkbnaaGreatDoor
open Go Go.RowKit
namespace NorK
open Kit LexM TermM TermI TermN TermU UniK UniM UnpP NorM NorP NorJ
/-- The name of the k-th variable of normal forms, from 0 on. -/
def nmV (k : Nat) : ByteArray := ⟨#[86]⟩ ++ ⟨(Lib.decDigits (k + 1)).toArray⟩
def namesV (n : Nat) : List ByteArray := (List.range n).map nmV
theorem rowB_set3 : ∀ (vs ns : List ByteArray) (i : Nat) (a b : ByteArray), vs.length = ns.length → i < ns.length → (((rowB vs ns).set (i * 3) (.string a)).set (i * 3 + 1) (.string b)).set (i * 3 + 2) (.slice none 0 0) = rowB (vs.set i a) (ns.set i b)
  | [], ns, i, a, b, h, hb => by
    have : ns = [] := List.length_eq_zero_iff.1 h.symm
    subst this
    simp at hb
  | _ :: _, [], i, a, b, h, _ => by simp at h
  | v :: vs, n :: ns, 0, a, b, h, _ => by simp [rowB]
  | v :: vs, n :: ns, i + 1, a, b, h, hb => by
    have := rowB_set3 vs ns i a b (by simpa using h) (by simpa using hb)
    have e : rowB (v :: vs) (n :: ns) = .string v :: .string n :: .slice none 0 0 :: rowB vs ns := rfl
    rw [e, show (i + 1) * 3 + 1 = (i * 3 + 1) + 1 + 1 + 1 by omega, show (i + 1) * 3 + 2 = (i * 3 + 2) + 1 + 1 + 1 by omega, show (i + 1) * 3 = (i * 3) + 1 + 1 + 1 by omega]
    simp only [List.set_cons_succ]
    rw [this]
    rfl
/-- The first k filled in. -/
def pad (l : List ByteArray) (n k : Nat) : List ByteArray := l.take k ++ List.replicate (n - k) ⟨#[]⟩
theorem pad_len {l : List ByteArray} {n k : Nat} (hl : l.length = n) (hk : k ≤ n) : (pad l n k).length = n := by simp [pad]; omega
theorem pad_set {l : List ByteArray} {n k : Nat} {b : ByteArray} (hl : l.length = n) (hb : l[k]? = some b) : (pad l n k).set k b = pad l n (k + 1) := by
  have hk := (List.getElem?_eq_some_iff.1 hb).1
  unfold pad
  rw [List.set_append_right _ _ (by simp; omega), take_get l k b hb, List.append_assoc]
  congr 1
  rw [show (l.take k).length = k by simp; omega, Nat.sub_self, show n - k = (n - (k + 1)) + 1 by omega, List.replicate_succ, List.set_cons_zero]
  rfl
theorem pad_end {l : List ByteArray} {n : Nat} (hl : l.length = n) : pad l n n = l := by unfold pad; rw [Nat.sub_self, List.take_of_length_le (by omega)]; simp
theorem zero_get : ∀ (n i : Nat), i < n * 3 → (rowB (List.replicate n ⟨#[]⟩) (List.replicate n ⟨#[]⟩))[i]? = some (if i % 3 = 2 then Value.slice none 0 0 else .string ⟨#[]⟩)
  | 0, i, h => by omega
  | n + 1, 0, _ => rfl
  | n + 1, 1, _ => rfl
  | n + 1, 2, _ => rfl
  | n + 1, i + 3, h => by
    have e : rowB (List.replicate (n + 1) ⟨#[]⟩) (List.replicate (n + 1) ⟨#[]⟩) = .string ⟨#[]⟩ :: .string ⟨#[]⟩ :: .slice none 0 0 :: rowB (List.replicate n ⟨#[]⟩) (List.replicate n ⟨#[]⟩) := rfl
    rw [e, List.getElem?_cons_succ, List.getElem?_cons_succ, List.getElem?_cons_succ, zero_get n i (by omega), show (i + 3) % 3 = i % 3 by omega]
theorem rowB_zero : ∀ n : Nat, rowB (List.replicate n ⟨#[]⟩) (List.replicate n ⟨#[]⟩) = (madeCells (Value.agg #[.string ⟨#[]⟩, .string ⟨#[]⟩, .slice none 0 0]).cells (n * 3)).toList := by
  intro n
  apply List.ext_getElem?
  intro i
  have hs : (Value.agg #[Value.string ⟨#[]⟩, .string ⟨#[]⟩, .slice none 0 0]).cells = #[.string ⟨#[]⟩, .string ⟨#[]⟩, .slice none 0 0] := rfl
  rw [hs]
  by_cases hi : i < n * 3
  · rw [zero_get n i hi]
    unfold madeCells
    rw [Array.getElem?_toList, Array.getElem?_map, Array.getElem?_range]
    rw [if_pos hi]
    have h3 : i % 3 < 3 := Nat.mod_lt _ (by omega)
    rcases (by omega : i % 3 = 0 ∨ i % 3 = 1 ∨ i % 3 = 2) with h | h | h
    · simp [h]
    · simp [h]
    · simp [h]
  · have h1 : (rowB (List.replicate n ⟨#[]⟩) (List.replicate n ⟨#[]⟩))[i]? = none := List.getElem?_eq_none (by rw [rowB_len _ _ rfl, List.length_replicate]; omega)
    rw [h1]
    exact (List.getElem?_eq_none (by rw [Array.length_toList, size_madeCells]; omega)).symm
theorem Tryz.infoBd : (Tryz.prog.info? 69).map (fun i => (i.zero, i.size, i.bytes)) = some (some (.agg #[.string ⟨#[]⟩, .string ⟨#[]⟩, .slice none 0 0]), 3, 56) := by kernel_rfl
theorem make_row (w : World) (n : Nat) (hn : n ≤ 100) : ∃ w', (Instr.makeSlice 59 (.int .i64 n) (.int .i64 n)).run Tryz.prog w = .ok (.slice (some ⟨w.heap.size, 0, none⟩) n n) w' ∧ Rw w' w.heap.size (List.replicate n ⟨#[]⟩) (List.replicate n ⟨#[]⟩) ∧ w.grownBy w' none := by
  obtain ⟨i, hi, hz, hs, hb⟩ := info_parts Tryz.infoBd
  obtain ⟨w', h1, h2, h3⟩ := run_make_full (P := Tryz.prog) w w.heap.size 59 69 i (.agg #[.string ⟨#[]⟩, .string ⟨#[]⟩, .slice none 0 0]) 3 Tryz.underlying59 hi hz hs .i64 .i64 n (by rw [hb]; omega) (by unfold maxLen; omega) (Nat.le_refl _)
  refine ⟨w', h1, ?_, h3⟩
  rw [← rowB_zero] at h2
  rcases h2.2 with ⟨e, _⟩ | ⟨g, cap, cur, e, _, e3, e4, _, e6, e7⟩
  · cases e
  · injection e with a1 a2 a3
    injection a1 with a1
    injection a1 with a1 _
    subst a1 a3
    have hc : cur = (rowB (List.replicate n ⟨#[]⟩) (List.replicate n ⟨#[]⟩)).toArray := by
      rw [← e7, List.take_of_length_le (by rw [Array.length_toList, e6]; omega)]
    rw [hc] at e3
    exact ⟨_, e3⟩
theorem Rw.fact3 {w : World} {g : Nat} {vs ns : List ByteArray} (h : Rw w g vs ns) (hl : vs.length = ns.length) {k : Nat} (hk : k < ns.length) : ∃ u1 u2 u3 : Value,
    w.cell? ⟨g, k * 3, none⟩ = some u1 ∧ w.cell? ⟨g, k * 3 + 1, none⟩ = some u2 ∧ w.cell? ⟨g, k * 3 + 2, none⟩ = some u3 ∧ w.frozen? ⟨g, k * 3, none⟩ = false ∧ w.frozen? ⟨g, k * 3 + 1, none⟩ = false ∧ w.frozen? ⟨g, k * 3 + 2, none⟩ = false ∧ g < w.heap.size := by
  have hz := rowB_len vs ns hl
  refine ⟨_, _, _, (Has.cell h _).trans (Array.getElem?_eq_getElem (by simp; omega)), (Has.cell h _).trans (Array.getElem?_eq_getElem (by simp; omega)), (Has.cell h _).trans (Array.getElem?_eq_getElem (by simp; omega)), Has.free h _, Has.free h _, Has.free h _, Has.lt h⟩
theorem Rw.put3 {w : World} {g : Nat} {vs ns : List ByteArray} (h : Rw w g vs ns) (hl : vs.length = ns.length) {i : Nat} (hi : i < ns.length) (a b : ByteArray) :
    Rw (((w.setCell ⟨g, i * 3, none⟩ (.string a)).setCell ⟨g, i * 3 + 1, none⟩ (.string b)).setCell ⟨g, i * 3 + 2, none⟩ (.slice none 0 0)) g (vs.set i a) (ns.set i b) := by
  have := ((Has.set h (i * 3) (.string a)).set (i * 3 + 1) (.string b)).set (i * 3 + 2) (.slice none 0 0)
  unfold Rw
  rw [← rowB_set3 vs ns i a b hl hi]
  simpa using this
set_option maxRecDepth 100000 in
set_option maxHeartbeats 6400000 in
theorem renaming_any (vs : List ByteArray) (n : Nat) (w : World) (p : Option Addr) (c : Nat) (c0 c1 c2 : Value) (hn : n < 100) (hvs : vs.length = n)
    (hrow : ∀ i v, vs[i]? = some v → ∃ b o, p = some ⟨b, o, none⟩ ∧ b < w.heap.size ∧ w.cell? ⟨b, o + i, none⟩ = some (.string v)) (P : List (List ByteArray) → World → Prop)
    (HP : ∀ pre w1 w', P pre w1 → Ch w.heap.size w1 w' → P pre w')
    (HV : ∀ pre ns w', ns.length = n → P pre w' → Rw w' w.heap.size vs ns → Calls Tryz.prog 35 #[.slice (some ⟨w.heap.size, 0, none⟩) n n, c0, c1, c2] w' fun e w'' => e = .returned (.tuple #[]) ∧ P (pre ++ [ns]) w'' ∧ Rw w'' w.heap.size vs ns)
    (h0 : ∀ w', Below w.heap.size w w' → P [] w') :
    Calls Tryz.prog 34 #[.slice p n c, .func (.func 35) #[] #[c0, c1, c2]] w fun e w' => e = .returned (.tuple #[]) ∧ P (vis n (namesV n) 0) w' ∧ Rw w' w.heap.size vs (namesV n) := by
  obtain ⟨wm, M, O, G⟩ := make_row w n (by omega)
  have hnl : (namesV n).length = n := by simp [namesV]
  have OR := Lib.hid (fun w' (hw : Below w.heap.size w w') (hr : Rw w' w.heap.size vs (namesV n)) => order_any vs n w.heap.size c0 c1 c2 (by omega) hvs P HP HV n 0 (namesV n) [] w' (by omega) hnl (h0 w' hw) hr)
  have B0 : Hid (Below w.heap.size w wm) := Lib.hid ((Below.refl w.heap.size w).grown G (Nat.le_refl _) (fun k h => by cases h))
  have O0 : Hid (Rw wm w.heap.size (pad vs n 0) (pad (namesV n) n 0)) := Lib.hid (by simpa [pad] using O)
  have HROW := Lib.hid hrow
  have HNL := Lib.hid hnl
  have HVS := Lib.hid hvs
  have NG := Lib.hid (fun k (hk : k < n) => show (namesV n)[k]? = some (nmV k) by simp [namesV, hk])
  clear HP HV h0 hrow hnl hvs O G
  obtain ⟨g, hg⟩ : ∃ g, g = w.heap.size := ⟨_, rfl⟩
  go_enter Tryz.func34, Tryz.ntmps34
  go_wp2_with fail
  go_loopw [12] (fun i wr => ∃ k : Nat, k ≤ n ∧ i = .int .i64 k ∧ Hid (Rw wr w.heap.size (pad vs n k) (pad (namesV n) n k)) ∧ Hid (Below w.heap.size w wr)) (fun i _ => n - (intOf i).toNat)
  case atStart => exact ⟨0, Nat.zero_le _, rfl, O0, B0⟩
  case round =>
    clear O0 B0
    obtain ⟨k, hk, rfl, hO, hD⟩ := hrel
    have hvs := HVS.out
    have hnl := HNL.out
    by_cases hlt : k < n
    · obtain ⟨v, hv⟩ : ∃ v, vs[k]? = some v := ⟨vs[k], by simp [hvs, hlt]⟩
      obtain ⟨b, o, rfl, hb, hc⟩ := HROW.out k v hv
      have hc2 : wr.cell? ⟨b, o + k, none⟩ = some (.string v) := (hD.out.cell (p := ⟨b, o + k, none⟩) hb).trans hc
      have hb2 : b < wr.heap.size := Nat.lt_of_lt_of_le hb hD.out.size
      have hp1 := pad_len hvs hk
      have hp2 := pad_len hnl hk
      obtain ⟨u1, u2, u3, y1, y2, y3, y4, y5, y6, y7⟩ := Rw.fact3 hO.out (by omega) (k := k) (by omega)
      have R6 := Rw.put3 hO.out (by omega) (i := k) (by omega) v (nmV k)
      rw [pad_set hvs hv, pad_set hnl (NG.out k hlt)] at R6
      have R7 := Lib.hid R6
      have D7 := Lib.hid (((hD.out.setCell (p := ⟨w.heap.size, k * 3, none⟩) (Nat.le_refl _) (.string v)).setCell (p := ⟨w.heap.size, k * 3 + 1, none⟩) (Nat.le_refl _) (.string (nmV k))).setCell (p := ⟨w.heap.size, k * 3 + 2, none⟩) (Nat.le_refl _) (.slice none 0 0))
      have IT := Lib.hid (fun w' => show Calls Tryz.prog 69 #[.int .i64 ((k : Int) + 1)] w' (fun e w'' => e = .returned (.string ⟨(Lib.decDigits (k + 1)).toArray⟩) ∧ w'' = w') from Tryz.strconv_Itoa_small (k + 1) (by omega) w')
      have hds : (⟨(Lib.decDigits (k + 1)).toArray⟩ : ByteArray).size ≤ 21 := by
        have := UnrE.digs_len (k + 1) (by omega)
        show Array.size _ ≤ 21
        simpa using this
      have AD := Lib.hid (fun w' => run_string_add_sum (P := Tryz.prog) w' ⟨#[86]⟩ ⟨(Lib.decDigits (k + 1)).toArray⟩ (by show 1 + _ ≤ _; omega))
      have hS : ⟨#[86]⟩ ++ ⟨(Lib.decDigits (k + 1)).toArray⟩ = nmV k := rfl
      rw [hS] at AD
      have ad := AD.out
      clear R6 hv hc hds hS hp1 hp2
      generalize (⟨(Lib.decDigits (k + 1)).toArray⟩ : ByteArray) = D at *
      generalize nmV k = S at *
      go_wp2_with (go_at_call 69; refine (IT.out _).mono ?_; rintro e w5 ⟨rfl, rfl⟩)
      go_roundw
      case rel => exact ⟨k + 1, by omega, by go_num, R7, D7⟩
      case measure => simp [intOf]; omega
    · obtain rfl : k = n := by omega
      have hO2 := hO.out
      rw [pad_end hvs, pad_end hnl] at hO2
      have K := Lib.hid (OR.out wr hD.out hO2)
      go_wp2_with fail
      refine K.out.mono ?_
      rintro e w6 ⟨rfl, h1, h2⟩
      have H1 := Lib.hid h1
      have H2 := Lib.hid h2
      clear h1 h2
      go_wp2_with fail
      exact bodyPost_end (v := .tuple #[]) (by simp [results, Tryz.results34, go_sem]) rfl ⟨rfl, by simpa using H1.out, H2.out⟩
end NorK
end Go.Proofs.YtdkpflojdnkbnaaGreatDoor
