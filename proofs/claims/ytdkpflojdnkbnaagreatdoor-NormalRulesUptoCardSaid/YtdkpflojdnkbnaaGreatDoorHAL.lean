/- Texts laid together: UnrE; NorI; NorJ. Their own heads stand before each. -/
import Derived.Test.YtdkpflojdnkbnaaGreatDoorHAI
import Derived.Test.YtdkpflojdnkbnaaGreatDoorHAE
import Derived.Deep.RegionHeld3
import Derived.Lib.ItoaNum
import Derived.Lib.ItoaLen
import Derived.Lib.ItoaMem
import Derived.Test.YtdkpflojdnkbnaaGreatDoorHAK
/- The reference's decimal. No conditions. -/
namespace Go.Proofs.YtdkpflojdnkbnaaGreatDoor
open Go Go.RowKit Go.Lib
namespace UnrE
open LexM TermM TermI Kit TermN TermU TermL TermF TermT UniK
theorem one_row (w : World) (b : UInt8) : (w.alloc (.cells #[.int .u8 b.toNat] 5)).ownsRow w.heap.size 5 1 (.slice (some ⟨w.heap.size, 0, none⟩) 1 1) [b].length (u8s [b]) :=
  ⟨rfl, Or.inr ⟨w.heap.size, 1, #[.int .u8 b.toNat], rfl, Nat.le_refl _, heap_alloc_new _ _, Nat.le_refl _, by unfold maxLen; omega, rfl, rfl⟩⟩
theorem one_conv (w : World) (b : UInt8) : (convert 107 9 (.slice (some ⟨w.heap.size, 0, none⟩) 1 1)).run Tryz.prog (w.alloc (.cells #[.int .u8 b.toNat] 5)) = .ok (.string ⟨#[b]⟩) (w.alloc (.cells #[.int .u8 b.toNat] 5)) := conv_row (one_row w b)
theorem dig (n : Nat) (h : n < 10) : (UInt8.ofNat (48 + n)).toNat = 48 + n := by
  simp [UInt8.toNat_ofNat]
  omega
set_option maxRecDepth 100000 in
set_option maxHeartbeats 1600000 in
theorem small_any (n : Nat) (h : n < 10) (w : World) : Calls Tryz.prog 52 #[.int .i64 n] w fun e w' => e = .returned (.string ⟨(decDigits n).toArray⟩) ∧ Below w.heap.size w w' := by
  have CV := Lib.hid (fun w => one_conv w (UInt8.ofNat (48 + n)))
  rw [dig n h] at CV
  rw [decDigits_one h]
  simp only [Int.natCast_add, Int.cast_ofNat_Int] at CV
  generalize UInt8.ofNat (48 + n) = b at *
  have c1 : ((48 : Int) + (n : Int)) % 256 = 48 + (n : Int) := by omega
  go_enter Tryz.func52, Tryz.ntmps52
  go_wp2_with fail
  rw [CV.out]
  go_wp2_with fail
  go_ret
  exact ⟨rfl, below_alloc _ _⟩
theorem digs_len (n : Nat) (h : n ≤ 1000000) : (decDigits n).length ≤ 21 := by
  have := Lib.itoa_length_le (n : Int) (by omega) (by omega)
  rw [Lib.itoa_nonneg n] at this
  exact this
end UnrE
end Go.Proofs.YtdkpflojdnkbnaaGreatDoor
/- The reference's names of normal forms; the code's closure of arranged. No conditions but names of an int's length. -/
namespace Go.Proofs.YtdkpflojdnkbnaaGreatDoor
open Go Go.RowKit
namespace NorI
open Kit LexM TermM TermI TermN TermU UniK UniM TermQ TermR UnpP NorM NorA
set_option maxRecDepth 100000 in
set_option maxHeartbeats 3200000 in
theorem arr1_any (x y : Lt) (B : Nat) (w : World) (sv sv' : Value) (hB : B ≤ w.heap.size) (hx : SlIn (· < B) w x.2.args sv) (hy : SlIn (· < B) w y.2.args sv') (hn : x.2.nm.size ≤ maxLen) (hn' : y.2.nm.size ≤ maxLen) :
    Calls Tryz.prog 76 #[.agg #[.bool x.1, .string x.2.nm, sv], .agg #[.bool y.1, .string y.2.nm, sv']] w fun e w' => e = .returned (.bool (cmpLt x y == 0)) ∧ Gr w w' := by
  have K := Lib.hid (fun w' (g : Gr w w') => lits_any x y B w' sv sv' (Nat.le_trans hB g.size) (hx.gr g hB) (hy.gr g hB) hn hn')
  obtain ⟨p, c, rfl⟩ := hx.form
  obtain ⟨p', c', rfl⟩ := hy.form
  clear hx hy hn hn'
  generalize cmpLt x y = z at *
  go_enter Tryz.func76, Tryz.ntmps76
  go_wp2_with fail
  refine (K.out _ ((Gr.alloc _ _).more _)).mono ?_
  rintro e w3 ⟨rfl, g3⟩
  have G3 := Lib.hid (((Gr.alloc _ _).more _).trans g3)
  clear g3
  go_wp2_with fail
  go_ret
  exact ⟨rfl, G3.out⟩
set_option maxRecDepth 100000 in
set_option maxHeartbeats 3200000 in
theorem name_any (i : Nat) (hi : i ≤ 9) (w : World) :
    Calls Tryz.prog 42 #[.int .i64 i] w fun e w' => e = .returned (.agg #[.string (⟨#[86]⟩ ++ ⟨#[UInt8.ofNat (48 + i)]⟩), .slice none 0 0]) ∧ Below w.heap.size w w' := by
  have hd : (UInt8.ofNat (48 + i)).toNat = 48 + i := UnrE.dig i (by omega)
  have CV := Lib.hid (UnrE.one_conv (w.alloc (.cells #[.string ⟨#[]⟩, .slice none 0 0] 24)) (UInt8.ofNat (48 + i)))
  rw [hd] at CV
  simp only [World.size_alloc, Int.natCast_add, Int.cast_ofNat_Int] at CV
  have AD := Lib.hid (fun w' => run_string_add_sum (P := Tryz.prog) w' ⟨#[86]⟩ ⟨#[UInt8.ofNat (48 + i)]⟩ (by show 1 + 1 ≤ 9223372036854775807; decide))
  generalize (⟨#[UInt8.ofNat (48 + i)]⟩ : ByteArray) = b at *
  clear hd
  have cv := CV.out
  have ad := AD.out
  generalize (⟨#[86]⟩ : ByteArray) ++ b = S at *
  obtain ⟨r1, r2, _⟩ := ((Has.new w 24 #[.string S, .slice none 0 0]).alloc (.cells #[.int .u8 (48 + (i : Int))] 5)).two
  go_enter Tryz.func42, Tryz.ntmps42
  go_wp2_with fail
  exact bodyPost_ret (v := .agg #[.string S, .slice none 0 0]) (by simp [results, Tryz.results42, go_sem, r1, r2]) rfl ⟨rfl, next0 (below_alloc _ _) (below_alloc _ _)⟩
end NorI
end Go.Proofs.YtdkpflojdnkbnaaGreatDoor
/- eachOrder of the code: a function is called at each order of the bindings' terms. Conditions: the function's contract at the row, and what it keeps is steady. -/
namespace Go.Proofs.YtdkpflojdnkbnaaGreatDoor
open Go Go.RowKit
namespace NorJ
open Kit LexM TermM TermI TermN TermU UniK UniM UnpP NorM NorP
/-- The cells of bindings of variables by variables. -/
def rowB (vs ns : List ByteArray) : List Value := (vs.zip ns).flatMap fun x => [.string x.1, .string x.2, .slice none 0 0]
theorem rowB_len : ∀ (vs ns : List ByteArray), vs.length = ns.length → (rowB vs ns).length = ns.length * 3
  | [], [], _ => rfl
  | a :: vs, b :: ns, h => by
    have := rowB_len vs ns (by simpa using h)
    simp only [rowB, List.zip_cons_cons, List.flatMap_cons, List.length_append, List.length_cons, List.length_nil] at this ⊢
    omega
  | [], _ :: _, h => by simp at h
  | _ :: _, [], h => by simp at h
theorem rowB_get : ∀ (vs ns : List ByteArray) (i : Nat) (b : ByteArray), vs.length = ns.length → ns[i]? = some b → (rowB vs ns)[i * 3 + 1]? = some (.string b) ∧ (rowB vs ns)[i * 3 + 2]? = some (.slice none 0 0)
  | [], ns, i, b, h, hb => by
    have : ns = [] := List.length_eq_zero_iff.1 h.symm
    subst this
    simp at hb
  | _ :: _, [], i, b, h, _ => by simp at h
  | v :: vs, n :: ns, 0, b, h, hb => by
    simp at hb
    subst hb
    simp [rowB]
  | v :: vs, n :: ns, i + 1, b, h, hb => by
    have := rowB_get vs ns i b (by simpa using h) (by simpa using hb)
    have e : rowB (v :: vs) (n :: ns) = [.string v, .string n, .slice none 0 0] ++ rowB vs ns := rfl
    rw [e, List.getElem?_append_right (by simp; omega), List.getElem?_append_right (by simp; omega)]
    simp only [List.length_cons, List.length_nil]
    rw [show (i + 1) * 3 + 1 - (0 + 1 + 1 + 1) = i * 3 + 1 by omega, show (i + 1) * 3 + 2 - (0 + 1 + 1 + 1) = i * 3 + 2 by omega]
    exact this
theorem rowB_set : ∀ (vs ns : List ByteArray) (i : Nat) (b : ByteArray), vs.length = ns.length → i < ns.length → ((rowB vs ns).set (i * 3 + 1) (.string b)).set (i * 3 + 2) (.slice none 0 0) = rowB vs (ns.set i b)
  | [], ns, i, b, h, hb => by
    have : ns = [] := List.length_eq_zero_iff.1 h.symm
    subst this
    simp at hb
  | _ :: _, [], i, b, h, _ => by simp at h
  | v :: vs, n :: ns, 0, b, h, _ => by simp [rowB]
  | v :: vs, n :: ns, i + 1, b, h, hb => by
    have := rowB_set vs ns i b (by simpa using h) (by simpa using hb)
    have e : rowB (v :: vs) (n :: ns) = .string v :: .string n :: .slice none 0 0 :: rowB vs ns := rfl
    rw [e, show (i + 1) * 3 + 1 = (i * 3 + 1) + 1 + 1 + 1 by omega, show (i + 1) * 3 + 2 = (i * 3 + 2) + 1 + 1 + 1 by omega]
    simp only [List.set_cons_succ]
    rw [this]
    rfl
/-- The row at block g. -/
def Rw (w : World) (g : Nat) (vs ns : List ByteArray) : Prop := Has w g (rowB vs ns).toArray
theorem Rw.get {w : World} {g : Nat} {vs ns : List ByteArray} (h : Rw w g vs ns) (hl : vs.length = ns.length) {i : Nat} (hi : i < ns.length) :
    w.cell? ⟨g, i * 3 + 1, none⟩ = some (.string (ns.getD i default)) ∧ w.cell? ⟨g, i * 3 + 2, none⟩ = some (.slice none 0 0) := by
  have e : ns[i]? = some (ns.getD i default) := by simp [List.getD, hi]
  obtain ⟨h1, h2⟩ := rowB_get vs ns i _ hl e
  refine ⟨(Has.cell h _).trans ?_, (Has.cell h _).trans ?_⟩
  · simpa using h1
  · simpa using h2
theorem Rw.put {w : World} {g : Nat} {vs ns : List ByteArray} (h : Rw w g vs ns) (hl : vs.length = ns.length) {i : Nat} (hi : i < ns.length) (b : ByteArray) :
    Rw ((w.setCell ⟨g, i * 3 + 1, none⟩ (.string b)).setCell ⟨g, i * 3 + 2, none⟩ (.slice none 0 0)) g vs (ns.set i b) := by
  have := (Has.set h (i * 3 + 1) (.string b)).set (i * 3 + 2) (.slice none 0 0)
  unfold Rw
  rw [← rowB_set vs ns i b hl hi]
  simpa using this
theorem Rw.swap {w : World} {g : Nat} {vs ns : List ByteArray} (h : Rw w g vs ns) (hl : vs.length = ns.length) {i j : Nat} (hi : i < ns.length) (hj : j < ns.length) :
    Rw ((((w.setCell ⟨g, i * 3 + 1, none⟩ (.string (ns.getD j default))).setCell ⟨g, i * 3 + 2, none⟩ (.slice none 0 0)).setCell ⟨g, j * 3 + 1, none⟩ (.string (ns.getD i default))).setCell ⟨g, j * 3 + 2, none⟩ (.slice none 0 0)) g vs (swp ns i j) :=
  (h.put hl hi _).put (by simpa using hl) (by simpa using hj) _
theorem Rw.facts {w : World} {g : Nat} {vs ns : List ByteArray} (h : Rw w g vs ns) (hl : vs.length = ns.length) {k q : Nat} (hk : k < ns.length) (hq : q < ns.length) : ∃ (bk bq : ByteArray) (u1 u2 : Value),
    w.cell? ⟨g, k * 3 + 1, none⟩ = some (.string bk) ∧ w.cell? ⟨g, k * 3 + 2, none⟩ = some (.slice none 0 0) ∧ w.cell? ⟨g, q * 3 + 1, none⟩ = some (.string bq) ∧ w.cell? ⟨g, q * 3 + 2, none⟩ = some (.slice none 0 0) ∧
    w.frozen? ⟨g, k * 3 + 1, none⟩ = false ∧ w.frozen? ⟨g, k * 3 + 2, none⟩ = false ∧ w.frozen? ⟨g, q * 3 + 1, none⟩ = false ∧ w.frozen? ⟨g, q * 3 + 2, none⟩ = false ∧ g < w.heap.size ∧
    ((w.setCell ⟨g, k * 3 + 1, none⟩ (.string bq)).setCell ⟨g, k * 3 + 2, none⟩ (.slice none 0 0)).cell? ⟨g, q * 3 + 1, none⟩ = some u1 ∧ ((w.setCell ⟨g, k * 3 + 1, none⟩ (.string bq)).setCell ⟨g, k * 3 + 2, none⟩ (.slice none 0 0)).cell? ⟨g, q * 3 + 2, none⟩ = some u2 ∧
    ((w.setCell ⟨g, k * 3 + 1, none⟩ (.string bq)).setCell ⟨g, k * 3 + 2, none⟩ (.slice none 0 0)).frozen? ⟨g, q * 3 + 1, none⟩ = false ∧ ((w.setCell ⟨g, k * 3 + 1, none⟩ (.string bq)).setCell ⟨g, k * 3 + 2, none⟩ (.slice none 0 0)).frozen? ⟨g, q * 3 + 2, none⟩ = false ∧
    Rw (((((w.setCell ⟨g, k * 3 + 1, none⟩ (.string bq)).setCell ⟨g, k * 3 + 2, none⟩ (.slice none 0 0)).setCell ⟨g, q * 3 + 1, none⟩ (.string bk)).setCell ⟨g, q * 3 + 2, none⟩ (.slice none 0 0)).drew) g vs (swp ns k q) ∧
    Ch g w (((((w.setCell ⟨g, k * 3 + 1, none⟩ (.string bq)).setCell ⟨g, k * 3 + 2, none⟩ (.slice none 0 0)).setCell ⟨g, q * 3 + 1, none⟩ (.string bk)).setCell ⟨g, q * 3 + 2, none⟩ (.slice none 0 0)).drew) := by
  obtain ⟨x1, x2⟩ := h.get hl hk
  obtain ⟨y1, y2⟩ := h.get hl hq
  have R1 := h.put hl hk (ns.getD q default)
  obtain ⟨z1, z2⟩ := R1.get (by simpa using hl) (i := q) (by simpa using hq)
  exact ⟨_, _, _, _, x1, x2, y1, y2, Has.free h _, Has.free h _, Has.free h _, Has.free h _, Has.lt h, z1, z2, Has.free R1 _, Has.free R1 _, Has.step0 (h.swap hl hk hq) (Below.refl _ _).drew,
    (((((Ch.refl g w).put (Or.inl rfl) _).put (Or.inl rfl) _).put (Or.inl rfl) _).put (Or.inl rfl) _).below (Below.refl _ _).drew⟩
set_option maxRecDepth 100000 in
set_option maxHeartbeats 6400000 in
theorem order_any (vs : List ByteArray) (n g : Nat) (c0 c1 c2 : Value) (hn : n ≤ 1000) (hvs : vs.length = n) (P : List (List ByteArray) → World → Prop)
    (HP : ∀ pre w w', P pre w → Ch g w w' → P pre w')
    (HV : ∀ pre ns w, ns.length = n → P pre w → Rw w g vs ns → Calls Tryz.prog 35 #[.slice (some ⟨g, 0, none⟩) n n, c0, c1, c2] w fun e w' => e = .returned (.tuple #[]) ∧ P (pre ++ [ns]) w' ∧ Rw w' g vs ns) (d : Nat) :
    ∀ (k : Nat) (ns : List ByteArray) (pre : List (List ByteArray)) (w : World), k + d = n → ns.length = n → P pre w → Rw w g vs ns →
      Calls Tryz.prog 70 #[.slice (some ⟨g, 0, none⟩) n n, .int .i64 k, .func (.func 35) #[] #[c0, c1, c2]] w fun e w' => e = .returned (.tuple #[]) ∧ P (pre ++ vis d ns k) w' ∧ Rw w' g vs ns := by
  induction d with
  | zero =>
    intro k ns pre w hk hl hp hr
    obtain rfl : k = n := by omega
    have V := Lib.hid (HV pre ns w hl hp hr)
    clear HV HP hp hr
    go_enter Tryz.func70, Tryz.ntmps70
    go_wp2_with fail
    refine V.out.mono ?_
    rintro e w2 ⟨rfl, h1, h2⟩
    have H1 := Lib.hid h1
    have H2 := Lib.hid h2
    clear h1 h2
    go_wp2_with fail
    exact bodyPost_ret (v := .tuple #[]) (by simp [results, Tryz.results70, go_sem]) rfl ⟨rfl, H1.out, H2.out⟩
  | succ d ih =>
    intro k ns pre w hk hl hp hr
    have IH := Lib.hid (fun (ns' : List ByteArray) (pre' : List (List ByteArray)) (w' : World) (hl' : ns'.length = n) (hp' : P pre' w') (hr' : Rw w' g vs ns') => show Calls Tryz.prog 70 #[.slice (some ⟨g, 0, none⟩) n n, .int .i64 ((k : Int) + 1), .func (.func 35) #[] #[c0, c1, c2]] w' (fun e w'' => e = .returned (.tuple #[]) ∧ P (pre' ++ vis d ns' (k + 1)) w'' ∧ Rw w'' g vs ns') from ih (k + 1) ns' pre' w' (by omega) hl' hp' hr')
    have hkn : k < n := by omega
    have STEP := Lib.hid (fun j => show List.flatMap (fun j => vis d (swp ns k (k + j)) (k + 1)) (List.range (j + 1)) = List.flatMap (fun j => vis d (swp ns k (k + j)) (k + 1)) (List.range j) ++ vis d (swp ns k (k + j)) (k + 1) by rw [List.range_succ, List.flatMap_append]; simp)
    have L0 : Hid (P (pre ++ List.flatMap (fun j => vis d (swp ns k (k + j)) (k + 1)) (List.range 0)) w) := Lib.hid (by simpa using hp)
    have HR := Lib.hid hr
    have c0' : ((k : Int) == (n : Int)) = false := by rw [beq_eq_false_iff_ne]; omega
    have HL := Lib.hid hl
    clear HV ih hp hr
    go_enter Tryz.func70, Tryz.ntmps70
    go_wp2_with fail
    go_loopw [6] (fun i wr => ∃ q : Nat, k ≤ q ∧ q ≤ n ∧ i = .int .i64 q ∧ Hid (P (pre ++ List.flatMap (fun j => vis d (swp ns k (k + j)) (k + 1)) (List.range (q - k))) wr) ∧ Hid (Rw wr g vs ns)) (fun i _ => n - (intOf i).toNat)
    case atStart => exact ⟨k, Nat.le_refl _, by omega, rfl, by rw [Nat.sub_self]; exact L0, HR⟩
    case round =>
      clear L0 HR
      obtain ⟨q, hq1, hq2, rfl, hP, hR⟩ := hrel
      by_cases hlt : q < n
      · have hkl : k < ns.length := by omega
        have hql : q < ns.length := by omega
        obtain ⟨bk, bq, u1, u2, x1, x2, y1, y2, x3, x4, y3, y4, hg, z1, z2, z3, z4, hsw, hch⟩ := hR.out.facts (by omega) hkl hql
        have SW := Lib.hid hsw
        have CH := Lib.hid hch
        have HSL : Hid ((swp ns k q).length = n) := Lib.hid (by rw [swp_len]; exact hl)
        have HSB : Hid (swp (swp ns k q) k q = ns) := Lib.hid (swp_swp ns hkl hql)
        have ST := Lib.hid (STEP.out (q - k))
        rw [show k + (q - k) = q by omega] at ST
        rw [show q - k + 1 = q + 1 - k by omega] at ST
        clear hsw hch
        go_upto_region 5 with fail
        go_region_law (fail)
        all_goals
          have P5 := Lib.hid (HP _ _ _ hP.out CH.out)
          clear x1 x2 x3 x4 y1 y2 y3 y4 z1 z2 z3 z4 hg
          go_wp2_with fail
          refine (IH.out (swp ns k q) _ _ HSL.out P5.out SW.out).mono ?_
          rintro e w6 ⟨rfl, h1, h2⟩
          have HSLo := HSL.out
          obtain ⟨bk', bq', u1', u2', x1, x2, y1, y2, x3, x4, y3, y4, hg, z1, z2, z3, z4, hsw, hch⟩ := Rw.facts h2 (by omega) (k := k) (q := q) (by omega) (by omega)
          rw [HSB.out] at hsw
          have SW6 := Lib.hid hsw
          have P6 := Lib.hid (HP _ _ _ h1 hch)
          rw [List.append_assoc, ← ST.out] at P6
          clear h1 h2 hsw hch SW CH P5
          go_upto_region 7 with fail
          go_region_law (fail)
          all_goals
            go_wp2_with fail
            go_roundw
            case rel => exact ⟨q + 1, by omega, by omega, by go_num, P6, SW6⟩
            case measure => simp [intOf]; omega
      · obtain rfl : q = n := by omega
        have HE : Hid (pre ++ List.flatMap (fun j => vis d (swp ns k (k + j)) (k + 1)) (List.range (q - k)) = pre ++ vis (d + 1) ns k) := Lib.hid (by rw [show q - k = d + 1 by omega]; rfl)
        rw [HE.out] at hP
        go_wp2_with fail
        exact bodyPost_end (v := .tuple #[]) (by simp [results, Tryz.results70, go_sem]) rfl ⟨rfl, hP.out, hR.out⟩
end NorJ
end Go.Proofs.YtdkpflojdnkbnaaGreatDoor
