/- Texts laid together: UnnB; UnnD; UnnE; UnnF; Sm40. Their own heads stand before each. -/
import Derived.Test.YtaenalpckloikaaGreatDoorGA11
import Derived.Test.YtaenalpckloikaaGreatDoorGA13
import Derived.Test.YtaenalpckloikaaGreatDoorGA9
import Derived.Maps.AppendAt
import Derived.Test.YtaenalpckloikaaGreatDoorGB1
import Derived.Test.YtaenalpckloikaaGreatDoorGA17
import Derived.Test.YtaenalpckloikaaGreatDoorGA12
import Derived.Test.YtaenalpckloikaaGreatDoorGA14
import Derived.Test.YtaenalpckloikaaGreatDoorGA3
import Derived.Deep.RegionLaw
import Derived.Deep.DeepCutAuto
import Derived.Test.YtaenalpckloikaaGreatDoorGA1
import Derived.Deep.RegionWith
import Derived.BigQuiet
import Derived.Deep.RegionHeld3
/- slices.Grow and slices.Concat at bindings. Condition: at most a thousand bindings each. -/
namespace Go.Proofs.YtaenalpckloikaaGreatDoor
open Go Go.RowKit
namespace UnnB
open LexM TermM TermI Kit TermN TermU UniK UniM UniA UniC UniD UniE UniG UniJ UniR
theorem run_app (w : World) (base : Nat) (v : Value) (n : Nat) (xs : List Value) (hown : w.ownsRow base 52 3 v n xs) (p : Option Addr) (m c : Nat) (news : List Value) (hp : p = none → m = 0)
    (hl : news.length = m * 3) (hnews : ∀ a, p = some a → ∀ j u, news[j]? = some u → w.cell? (a.add j) = some u) (h1 : ∀ u ∈ news, u.oneCell' = true) (hn : n + m ≤ 1000000) (hbase : base ≤ w.heap.size) (ty : TypeId) :
    ∃ v' w', (Builtin.append_ #[22, 22] ty #[v, .slice p m c]).run Tryz.prog w = .ok v' w' ∧ w'.ownsRow base 52 3 v' (n + m) (xs ++ news) ∧ w.grownBy w' v.ownBlock := by
  obtain ⟨i0, hi, hz0, hz1, hz2⟩ := info_parts infoB
  cases p with
  | some a =>
    obtain ⟨v', w', e1, e2, e3, _⟩ := run_append_own_at (P := Tryz.prog) w base 22 ty 52 i0 zB 3 56 Tryz.underlying22 hi hz0 hz1 hz2 rfl (by decide) v n xs hown a m c news hl (hnews a rfl) h1 (by unfold maxLen; omega) (by omega) hbase
    exact ⟨v', w', e1, e2, e3⟩
  | none =>
    obtain rfl := hp rfl
    have hn0 : news = [] := List.eq_nil_of_length_eq_zero (by omega)
    subst hn0
    refine ⟨v, w, ?_, by rw [List.append_nil]; exact hown, ⟨rfl, rfl, rfl, Nat.le_refl _, fun _ _ _ => rfl⟩⟩
    rcases hown.2 with ⟨rfl, rfl⟩ | ⟨g, cap, cur, rfl, _, _, h4, _⟩
    · simp [Builtin.append_, run_underlying Tryz.underlying22, sizeOf, typeInfo, hi, Builtin.lenOf, Builtin.firstCells]
    · simp [Builtin.append_, run_underlying Tryz.underlying22, sizeOf, typeInfo, hi, Builtin.lenOf, Builtin.firstCells, loadCells, storeCells, h4]
theorem flat_one : ∀ (L : List (Bd × Value)), (∀ x ∈ L, ∃ p n c, x.2 = .slice p n c) → ∀ u ∈ KB.flat L, u.oneCell' = true
  | [], _, u, hu => by simp [Kd.flat] at hu
  | x :: L, h, u, hu => by
    simp only [Kd.flat, List.flatMap_cons, List.mem_append] at hu
    rcases hu with hu | hu
    · obtain ⟨p, n, c, e⟩ := h x (by simp)
      simp [KB] at hu
      rcases hu with rfl | rfl | rfl
      · rfl
      · rfl
      · rw [e]; rfl
    · exact flat_one L (fun y hy => h y (by simp [hy])) u hu
theorem flat_cells {w : World} {g o : Nat} : ∀ (L : List (Bd × Value)), (∀ (i : Nat) (x : Bd × Value), L[i]? = some x → ∀ (j : Nat) (u : Value), (KB.cells x)[j]? = some u → w.cell? ⟨g, o + i * 3 + j, none⟩ = some u) →
    ∀ (j : Nat) (u : Value), (KB.flat L)[j]? = some u → w.cell? ((⟨g, o, none⟩ : Addr).add j) = some u := by
  intro L h j u hu
  rw [addr_add]
  have hj := (List.getElem?_eq_some_iff.1 hu).1
  rw [flat_len] at hj
  obtain ⟨x, hx⟩ : ∃ x, L[j / 3]? = some x := ⟨L[j / 3]'(by omega), by simp⟩
  obtain ⟨y, hy⟩ : ∃ y, (KB.cells x)[j % 3]? = some y := ⟨(KB.cells x)[j % 3]'(by rw [KB.len]; omega), by simp⟩
  have e1 := flat_get (K := KB) L (j / 3) x hx (j % 3) y hy
  rw [show j / 3 * 3 + j % 3 = j by omega, hu] at e1
  cases e1
  have := h (j / 3) x hx (j % 3) u hy
  rwa [show o + j / 3 * 3 + j % 3 = o + j by omega] at this
set_option maxHeartbeats 1600000 in
set_option maxRecDepth 100000 in
theorem grow_any (n : Nat) (hn : n ≤ 2000) (w : World) : Calls Tryz.prog 125 #[.slice none 0 0, .int .i64 n] w fun e w' => ∃ v : Value, e = .returned v ∧ w'.ownsRow w.heap.size 52 3 v 0 [] ∧ Below w.heap.size w w' := by
  obtain ⟨i0, hi0, hz0, hzs, hzb⟩ := info_parts infoB
  by_cases h0 : n = 0
  · subst h0
    go_enter Tryz.func125, Tryz.ntmps125
    go_wp2_with fail
    go_ret
    exact ⟨_, rfl, ⟨rfl, Or.inl ⟨rfl, rfl⟩⟩, Below.refl _ _⟩
  · have hrz : ∀ ty, (Builtin.append_ #[22, 3] ty #[.slice none 0 0, .int .i64 (n : Int)]).run Tryz.prog w =
      .ok (.slice (some ⟨w.heap.size, 0, none⟩) n (grownCap w n 0 52)) (w.drew.alloc (.cells (#[] ++ Builtin.zeroCells zB.cells n ++ Builtin.zeroCells zB.cells (grownCap w n 0 52 - n)) 52)) := fun ty => by
      have h := Lib.run_append_grow_zeros w 22 3 ty 52 i0 _ .i64 .i64 Tryz.underlying22 (by kernel_rfl) hi0 hz0 none 0 0 [] (run_firstCells_none w.drew i0.size 0 0 0) n (by omega) (by omega) (by omega) (by omega) (by rw [hzb]; omega) (by rw [hzb]; exact growslice_fits (by omega) (by omega))
      rw [Nat.zero_add] at h
      exact h
    have hge := grownCap_ge w n 0 52
    have hle : grownCap w n 0 52 ≤ maxLen := grownCap_le_maxLen w n 0 52 (by unfold maxLen; omega)
    obtain ⟨cur, hcur⟩ : ∃ cur, cur = (#[] ++ Builtin.zeroCells zB.cells n ++ Builtin.zeroCells zB.cells (grownCap w n 0 52 - n) : Array Value) := ⟨_, rfl⟩
    have hcs : cur.size = grownCap w n 0 52 * 3 := by
      rw [hcur]
      simp [size_zeroCells, Value.cells]
      omega
    rw [← hcur] at hrz
    clear hcur
    generalize grownCap w n 0 52 = G at *
    have hz2 : ¬ ((n : Int) < 0) := by omega
    have hz3 : (0 : Int) < (n : Int) := by omega
    go_enter Tryz.func125, Tryz.ntmps125
    go_wp2_with (at_builtin; refine Lib.wpList_append_run _ rfl _ _ _ _ rfl _ _ rfl rfl _ _ (hrz _) ?_)
    go_ret
    exact ⟨_, rfl, ⟨rfl, Or.inr ⟨w.heap.size, G, cur, rfl, Nat.le_refl _, heap_alloc_new _ _, Nat.zero_le _, hle, hcs, by simp⟩⟩, next0 (Below.refl _ _).drew (below_alloc _ _)⟩
/-- A row of bindings in memory, its cells one after another. -/
theorem row_open {B : Nat} {w : World} {s : List Bd} {v : Value} (h : SIn (· < B) w s v) : ∃ (L : List (Bd × Value)) (p : Option Addr) (c : Nat), L.map (·.1) = s ∧ v = .slice p s.length c ∧ L.length = s.length ∧ (p = none → s.length = 0) ∧ (∀ u ∈ KB.flat L, u.oneCell' = true) ∧
    (∀ x ∈ L, KB.inn (· < B) w x) ∧ ∀ w', Below B w w' → ∀ a, p = some a → ∀ j u, (KB.flat L)[j]? = some u → w'.cell? (a.add j) = some u := by
  obtain ⟨L, rfl, p, c, rfl, h1, h2, h3, h4⟩ := h
  have hll : (L.map (·.1)).length = L.length := by simp
  refine ⟨L, p, c, rfl, by rw [hll], hll.symm, fun hp => ?_, flat_one L (fun x hx => ?_), h3, fun w' hb a ha j u hu => ?_⟩
  · rw [hll]
    rcases Nat.eq_zero_or_pos L.length with h | h
    · exact h
    · obtain ⟨g, o, e, _⟩ := h4 h
      rw [hp] at e
      cases e
  · obtain ⟨q, d, e⟩ := (h3 x hx).1.form
    exact ⟨q, _, d, e⟩
  · have hj := (List.getElem?_eq_some_iff.1 hu).1
    rw [flat_len] at hj
    obtain ⟨g, o, e, hg, hc⟩ := h4 (by omega)
    rw [e] at ha
    cases ha
    exact flat_cells (w := w') L (fun i x hx j u hu => (hb.cell (p := ⟨g, _, none⟩) hg).trans (hc i x hx j u hu)) j u hu
set_option maxHeartbeats 3200000 in
set_option maxRecDepth 100000 in
theorem concat_any (s t : List Bd) (hls : s.length ≤ 1000) (hlt : t.length ≤ 1000) (B : Nat) (w : World) (g : Nat) (sv tv : Value) (hB : B ≤ w.heap.size) (hs : SIn (· < B) w s sv) (ht : SIn (· < B) w t tv) (hH : Has w g #[sv, tv]) :
    Calls Tryz.prog 90 #[.slice (some ⟨g, 0, none⟩) 2 2] w fun e w' => ∃ (L : List (Bd × Value)) (v : Value), e = .returned v ∧ L.map (·.1) = s ++ t ∧ (∀ x ∈ L, ∃ p n c, x.2 = .slice p n c) ∧ w'.ownsRow w.heap.size 52 3 v L.length (KB.flat L) ∧ Below w.heap.size w w' := by
  obtain ⟨Ls, p, c, e1, rfl, e2, e3, e4, i4, e5⟩ := row_open hs
  obtain ⟨Lt, q, d, f1, rfl, f2, f3, f4, j4, f5⟩ := row_open ht
  have HFM : Hid (∀ x ∈ Ls ++ Lt, ∃ p n c, x.2 = Value.slice p n c) := Lib.hid (fun x hx => by
    rcases List.mem_append.1 hx with h | h
    · obtain ⟨q, d, e⟩ := (i4 x h).1.form
      exact ⟨q, _, d, e⟩
    · obtain ⟨q, d, e⟩ := (j4 x h).1.form
      exact ⟨q, _, d, e⟩)
  clear i4 j4
  have HS := Lib.hid e5
  have HT := Lib.hid f5
  have HH := Lib.hid (fun w' (k : Below w.heap.size w w') => (hH.step0 k).two)
  have H1 := Lib.hid e4
  have H2 := Lib.hid f4
  have H3 := Lib.hid e3
  have H4 := Lib.hid f3
  have HE : Hid ((Ls ++ Lt).map (·.1) = s ++ t) := Lib.hid (by rw [List.map_append, e1, f1])
  have HB := Lib.hid hB
  have HL1 := Lib.hid e2
  have HL2 := Lib.hid f2
  have FA : Hid (KB.flat (Ls ++ Lt) = KB.flat Ls ++ KB.flat Lt) := Lib.hid (flat_app _ _)
  have HLL : Hid ((Ls ++ Lt).length = s.length + t.length) := Lib.hid (by rw [List.length_append, e2, f2])
  have FL1 : Hid ((KB.flat Ls).length = s.length * 3) := Lib.hid (by rw [flat_len, e2])
  have FL2 : Hid ((KB.flat Lt).length = t.length * 3) := Lib.hid (by rw [flat_len, f2])
  have CG := Lib.hid (fun w' => grow_any (s.length + t.length) (by omega) w')
  clear hs ht hH e1 e2 e3 e4 e5 f1 f2 f3 f4 f5 hB
  generalize hA : s.length = a at *
  generalize hC : t.length = b at *
  clear hA hC
  generalize KB.flat Ls = xs at *
  generalize KB.flat Lt = ys at *
  have CG2 : Hid (∀ w', Calls Tryz.prog 125 #[.slice none 0 0, .int .i64 ((a : Int) + (b : Int))] w' fun e w'' => ∃ v : Value, e = .returned v ∧ w''.ownsRow w'.heap.size 52 3 v 0 [] ∧ Below w'.heap.size w' w'') := Lib.hid (fun w' => by
    have := CG.out w'
    rw [show (((a + b : Nat)) : Int) = (a : Int) + (b : Int) from Int.natCast_add a b] at this
    exact this)
  clear CG
  have z1 : ¬ ((a : Int) < 0) := by omega
  have z2 : ¬ (((a : Int) + (b : Int)) < 0) := by omega
  go_enter Tryz.func90, Tryz.ntmps90
  go_wp2_with fail
  go_loopw [3, 11] (fun z i wr => ∃ k : Nat, k ≤ 2 ∧ i = .int .i64 k ∧ z = .int .i64 (if k = 0 then 0 else if k = 1 then (a : Int) else (a : Int) + (b : Int)) ∧ Hid (Below w.heap.size w wr)) (fun _ i _ => 2 - (intOf i).toNat)
  case atStart => exact ⟨0, Nat.zero_le _, rfl, rfl, Lib.hid (Below.refl _ _)⟩
  case round =>
    obtain ⟨k, hk, rfl, rfl, hK⟩ := hrel
    obtain ⟨y1, y2, _⟩ := HH.out _ hK.out
    have hk3 : k = 0 ∨ k = 1 ∨ k = 2 := by omega
    rcases hk3 with rfl | rfl | rfl
    · simp only [if_true]
      go_wp2_with fail
      go_roundw
      case rel => exact ⟨1, by omega, by go_num, by simp, hK⟩
      case measure => simp [intOf]
    · simp only [Nat.one_ne_zero, if_false, if_true]
      go_wp2_with fail
      go_roundw
      case rel => exact ⟨2, by omega, by go_num, by simp, hK⟩
      case measure => simp [intOf]
    · simp only [show ¬ (2 = 0) by decide, show ¬ (2 = 1) by decide, if_false]
      clear y1 y2
      go_wp2_with fail
      refine (CG2.out _).mono ?_
      rintro e w3 ⟨v3, rfl, h3, k3⟩
      have K3 := Lib.hid (next0 hK.out k3)
      have O3 : Hid (w3.ownsRow w.heap.size 52 3 v3 0 []) := Lib.hid (TermF.own_mono h3 hK.out.size)
      clear h3 k3 CG2
      go_wp2_with fail
      go_loopw [6, 27] (fun v i wr => ∃ k : Nat, k ≤ 2 ∧ i = .int .i64 k ∧ Hid (wr.ownsRow w.heap.size 52 3 v (if k = 0 then 0 else if k = 1 then a else a + b) (if k = 0 then [] else if k = 1 then xs else xs ++ ys)) ∧ Hid (Below w.heap.size w wr)) (fun _ i _ => 2 - (intOf i).toNat)
      case atStart => exact ⟨0, Nat.zero_le _, rfl, O3, K3⟩
      case round =>
        obtain ⟨k, hk, rfl, hO, hK⟩ := hrel
        obtain ⟨y1, y2, _⟩ := HH.out _ hK.out
        have hk3 : k = 0 ∨ k = 1 ∨ k = 2 := by omega
        rcases hk3 with rfl | rfl | rfl
        · simp only [if_true] at hO
          rename_i v0 _
          obtain ⟨v', w4, hr, h4, g4⟩ := run_app wr w.heap.size _ 0 [] hO.out p a c xs H3.out FL1.out (HS.out wr (hK.out.mono HB.out)) H1.out (by omega) hK.out.size 22
          rw [Nat.zero_add, List.nil_append] at h4
          have O4 := Lib.hid h4
          have K4 := Lib.hid (hK.out.grown g4 hK.out.size (fun j hj => (hO.out.lt j hj).1))
          clear h4 g4
          go_wp2_with (at_builtin; refine Lib.wpList_append_run _ rfl _ _ _ _ rfl _ _ rfl rfl _ _ hr ?_)
          go_roundw
          case rel => exact ⟨1, by omega, by go_num, by simpa using O4, K4⟩
          case measure => simp [intOf]
        · simp only [Nat.one_ne_zero, if_false, if_true] at hO
          obtain ⟨v', w4, hr, h4, g4⟩ := run_app wr w.heap.size _ a xs hO.out q b d ys H4.out FL2.out (HT.out wr (hK.out.mono HB.out)) H2.out (by omega) hK.out.size 22
          have O4 := Lib.hid h4
          have K4 := Lib.hid (hK.out.grown g4 hK.out.size (fun j hj => (hO.out.lt j hj).1))
          clear h4 g4
          go_wp2_with (at_builtin; refine Lib.wpList_append_run _ rfl _ _ _ _ rfl _ _ rfl rfl _ _ hr ?_)
          go_roundw
          case rel => exact ⟨2, by omega, by go_num, by simpa using O4, K4⟩
          case measure => simp [intOf]
        · simp only [show ¬ (2 = 0) by decide, show ¬ (2 = 1) by decide, if_false] at hO
          go_wp2_with fail
          go_ret
          exact ⟨Ls ++ Lt, _, rfl, HE.out, HFM.out, by rw [HLL.out, FA.out]; exact hO.out, hK.out⟩
end UnnB
end Go.Proofs.YtaenalpckloikaaGreatDoor
/- boundVars of the code: the variables that two substitutions bind, ascending, each once. Condition: at most a thousand bindings each. -/
namespace Go.Proofs.YtaenalpckloikaaGreatDoor
open Go Go.RowKit
namespace UnnD
open LexM TermM TermI Kit TermN TermU TermL TermE TermF UniK UniM UniA UniC UniD UniE UniG UniJ UniO UniR UnjA UnmE UnmF UnmG UnnB UnnC
def compactB (vs : List ByteArray) : List ByteArray := bytesOf (Lib.compact (lists vs))
theorem lists_bytes (ls : List (List UInt8)) : lists (bytesOf ls) = ls := by
  unfold lists bytesOf
  rw [List.map_map]
  exact List.map_id _
theorem bvars_eq (s t : List Bd) : compactB (sortB (names s t)) = bvars s t := by
  unfold compactB bvars sortB
  rw [lists_bytes]
/-- Strings one behind the other from the beginning of a block. -/
def StrR (base : Nat) (w : World) (p : Option Addr) (l : List ByteArray) : Prop := ∀ k x, l[k]? = some x → ∃ g, p = some ⟨g, 0, none⟩ ∧ base ≤ g ∧ g < w.heap.size ∧ w.cell? ⟨g, k, none⟩ = some (.string x)
theorem StrR.deep {base : Nat} {w w' : World} {p : Option Addr} {l : List ByteArray} (h : StrR base w p l) (hb : Below w.heap.size w w') : StrR base w' p l := fun k x hx => by
  obtain ⟨g, e, h1, h2, h3⟩ := h k x hx
  exact ⟨g, e, h1, Nat.lt_of_lt_of_le h2 hb.size, (hb.cell (p := ⟨g, _, none⟩) h2).trans h3⟩
theorem compact_len (ls : List (List UInt8)) : (Lib.compact ls).length ≤ ls.length := by
  have h := Lib.compact_length_le ls
  exact h
theorem compact_any (base : Nat) (w : World) (v : Value) (vs : List ByteArray) (hown : w.ownsRow base 9 1 v vs.length (strs vs)) (hl : vs.length ≤ 1000000) :
    Calls Tryz.prog 91 #[v] w fun e w' => ∃ (p : Option Addr) (c : Nat), e = .returned (.slice p (compactB vs).length c) ∧ StrR base w' p (compactB vs) ∧ Below base w w' := by
  have h0 := hown
  rcases hown.2 with ⟨rfl, hz⟩ | ⟨g, cap, cur, rfl, e2, e3, e4, e5, e6, e7⟩
  · have hv : vs = [] := List.eq_nil_of_length_eq_zero hz
    subst hv
    refine (Tryz.slices_Compact_string_empty none 0 w).mono ?_
    rintro e w' ⟨rfl, rfl⟩
    have e9 : compactB [] = [] := by
      have h := compact_len (lists [])
      have h2 : (Lib.compact (lists [])).length = 0 := by simp [lists] at h ⊢; exact h
      simp [compactB, bytesOf, List.eq_nil_of_length_eq_zero h2]
    rw [e9]
    exact ⟨none, 0, rfl, fun k x h => by simp at h, Below.refl _ _⟩
  · have hll : (lists vs).length = vs.length := by simp [lists]
    have hH : Go.Sort.Holds encStr w g 0 (lists vs).toArray := by
      intro j hj
      have hj' : j < vs.length := by simpa [lists] using hj
      refine ⟨?_, h0.frozenAt _⟩
      rw [Nat.zero_add, h0.cellAt j (by omega)]
      have e9 : (lists vs).toArray[j]! = vs[j].data.toList := by
        rw [getElem!_pos _ j (by simpa using hj)]
        simp [lists]
      rw [e9]
      simp [strs, encStr, hj']
    have C := Tryz.slices_Compact_string g 0 cap (lists vs) w hH (by omega) (by omega)
    rw [hll] at C
    have hcl := compact_len (lists vs)
    refine C.mono ?_
    rintro e w' ⟨rfl, n, rfl⟩
    have hsl : (Lib.compact (lists vs) ++ List.replicate (vs.length - (Lib.compact (lists vs)).length) []).length = vs.length := by simp; omega
    have P := put_row (ls := Lib.compact (lists vs) ++ List.replicate (vs.length - (Lib.compact (lists vs)).length) []) (by rw [hsl]; exact h0) n #[]
    rw [Go.Sort.grow_empty, hsl] at P
    have ecl : (compactB vs).length = (Lib.compact (lists vs)).length := by simp [compactB, bytesOf]
    refine ⟨some ⟨g, 0, none⟩, cap, by rw [ecl], fun k x hx => ?_, P.2⟩
    have hk : k < (Lib.compact (lists vs)).length := by rw [← ecl]; exact (List.getElem?_eq_some_iff.1 hx).1
    refine ⟨g, rfl, e2, (P.1.lt g rfl).2, ?_⟩
    refine (P.1.cellAt k (by omega)).trans ?_
    unfold compactB bytesOf at hx
    rw [List.getElem?_map] at hx
    obtain ⟨y, hy, rfl⟩ := Option.map_eq_some_iff.1 hx
    rw [List.getElem?_map, List.getElem?_append_left hk, hy]
    simp [encStr]
theorem flat_at (L : List (Bd × Value)) {k : Nat} {x : Bd × Value} (h : L[k]? = some x) {p : Option Addr} {n c : Nat} (hx : x.2 = .slice p n c) :
    (KB.flat L)[k * 3]? = some (.string x.1.1) ∧ (KB.flat L)[k * 3 + 1]? = some (.string x.1.2.nm) ∧ (KB.flat L)[k * 3 + 1 + 1]? = some (.slice p n c) :=
  ⟨flat_get (K := KB) L k x h 0 _ rfl, flat_get (K := KB) L k x h 1 _ rfl, by rw [← hx]; exact flat_get (K := KB) L k x h 2 _ rfl⟩
theorem strs_snoc (vs : List ByteArray) (v : ByteArray) : strs (vs ++ [v]) = strs vs ++ [.string v] := by simp [strs]
theorem own_cells {w : World} {base : Nat} {L : List (Bd × Value)} {v : Value} (h : w.ownsRow base 52 3 v L.length (KB.flat L)) {k : Nat} (hk : k < L.length) : ∃ g c, v = .slice (some ⟨g, 0, none⟩) L.length c ∧ base ≤ g ∧ g < w.heap.size ∧ ∀ j, j < 3 → w.cell? ⟨g, k * 3 + j, none⟩ = (KB.flat L)[k * 3 + j]? := by
  have hl := h.lt
  rcases h.2 with ⟨_, e⟩ | ⟨g, cap, cur, rfl, hg, _⟩
  · omega
  · exact ⟨g, cap, rfl, hg, (hl g rfl).2, fun j hj => h.cellAt _ (by omega)⟩
set_option maxRecDepth 100000 in
set_option maxHeartbeats 1600000 in
theorem bound_any (s t : List Bd) (hls : s.length ≤ 1000) (hlt : t.length ≤ 1000) (B : Nat) (w : World) (sv tv : Value) (hB : B ≤ w.heap.size) (hs : SIn (· < B) w s sv) (ht : SIn (· < B) w t tv) :
    Calls Tryz.prog 59 #[sv, tv] w fun e w' => ∃ (p : Option Addr) (c : Nat), e = .returned (.slice p (bvars s t).length c) ∧ StrR w.heap.size w' p (bvars s t) ∧ Below w.heap.size w w' := by
  obtain ⟨ps, cs, rfl⟩ := hs.form
  obtain ⟨pt, ct, rfl⟩ := ht.form
  obtain ⟨W1, hW1⟩ : ∃ W1, W1 = w.alloc (.cells #[.slice ps s.length cs, .slice pt t.length ct] 22) := ⟨_, rfl⟩
  have J1 : Hid (Below w.heap.size w W1) := Lib.hid (by rw [hW1]; exact below_alloc _ _)
  have hs1 : w.heap.size + 1 = W1.heap.size := by rw [hW1]; simp
  have CC := Lib.hid (concat_any s t hls hlt B W1 w.heap.size _ _ (Nat.le_trans hB J1.out.size) (hs.deep J1.out hB) (ht.deep J1.out hB) (by rw [hW1]; exact Has.new _ _ _))
  have HN : Hid (names s t = (s ++ t).map (·.1)) := Lib.hid rfl
  have hnl : (names s t).length ≤ 1000000 := by unfold names; simp; omega
  have CS := Lib.hid (fun base w' v h => sortc base w' v (names s t) h hnl)
  have CP := Lib.hid (fun base w' v h => compact_any base w' v (sortB (names s t)) h (by rw [sortB_len]; exact hnl))
  rw [bvars_eq, sortB_len] at CP
  have hBV := Lib.hid (rfl : (bvars s t).length = (bvars s t).length)
  clear hs ht hB hBV
  generalize s.length = sl at *
  generalize t.length = tl at *
  generalize hnm : names s t = nm at *
  have HNM := Lib.hid hnm
  clear hnm
  generalize sortB nm = sn at *
  generalize bvars s t = bv at *
  go_enter Tryz.func59, Tryz.ntmps59
  go_wp2_with fail
  rw [← hW1]
  clear hW1
  refine CC.out.mono ?_
  rintro e w2 ⟨L, v2, rfl, hLm, hLf, hO, k2⟩
  have K2 := Lib.hid (next0 J1.out k2)
  have O2 := Lib.hid hO
  have HLF := Lib.hid hLf
  have HLM : Hid (L.map (fun x => x.1.1) = nm) := Lib.hid (by rw [HN.out, ← hLm]; simp)
  have hLn : L.length ≤ 1000000 := by have := congrArg List.length HLM.out; rw [List.length_map] at this; omega
  have TK := Lib.hid (fun k x (h : L[k]? = some x) => show (L.take (k + 1)).map (fun x => x.1.1) = (L.take k).map (fun x => x.1.1) ++ [x.1.1] from by rw [take_get L k x h]; simp)
  have TE : Hid ((L.take L.length).map (fun x => x.1.1) = nm) := Lib.hid (by rw [List.take_length]; exact HLM.out)
  obtain ⟨pv, cv, rfl⟩ : ∃ p c, v2 = .slice p L.length c := by
    rcases hO.2 with ⟨e, hz⟩ | ⟨g, cap, cur, e, _⟩
    · exact ⟨none, 0, by rw [e, hz]⟩
    · exact ⟨_, cap, e⟩
  obtain ⟨m, hm⟩ : ∃ m, L.length = m := ⟨_, rfl⟩
  have HM := Lib.hid hm
  rw [hm] at hLn TE
  clear CC hLm hLf hO k2 HLM
  obtain ⟨i0, hi, hz0, hz1, hz2⟩ := info_parts Tryz.info9s
  go_wp2_with fail
  go_loopw [5, 13] (fun v i wr => ∃ (k : Nat), k ≤ m ∧ i = .int .i64 k ∧ Hid (wr.ownsRow w2.heap.size 9 1 v k (strs ((L.take k).map (fun x => x.1.1)))) ∧ Hid (Below w2.heap.size w2 wr)) (fun _ i _ => m - (intOf i).toNat)
  case atStart => exact ⟨0, Nat.zero_le _, rfl, Lib.hid ⟨rfl, Or.inl ⟨rfl, rfl⟩⟩, Lib.hid (Below.refl _ _)⟩
  case round =>
    obtain ⟨k, hk, rfl, hO, hK⟩ := hrel
    obtain ⟨va, vc, rfl⟩ := row_form hO.out
    by_cases hlt : k < m
    · obtain ⟨x, hx⟩ : ∃ x, L[k]? = some x := ⟨L[k]'(by rw [HM.out]; exact hlt), by simp⟩
      obtain ⟨q, n9, d, hxf⟩ := HLF.out x (List.mem_of_getElem? hx)
      obtain ⟨g, c9, e9, hg1, hg2, hc⟩ := own_cells O2.out (by rw [HM.out]; exact hlt : k < L.length)
      injection e9 with e91 _ e92
      subst e91 e92
      obtain ⟨f1, f2, f3⟩ := flat_at L hx hxf
      have hcr : ∀ j, j < 3 → wr.cell? ⟨g, k * 3 + j, none⟩ = (KB.flat L)[k * 3 + j]? := fun j hj => (hK.out.cell (p := ⟨g, _, none⟩) hg2).trans (hc j hj)
      have c1 : wr.cell? ⟨g, k * 3, none⟩ = some (.string x.1.1) := (hcr 0 (by omega)).trans f1
      have c2 : wr.cell? ⟨g, k * 3 + 1, none⟩ = some (.string x.1.2.nm) := (hcr 1 (by omega)).trans f2
      have c3 : wr.cell? ⟨g, k * 3 + 1 + 1, none⟩ = some (.slice q n9 d) := (hcr 2 (by omega)).trans f3
      have TK1 := Lib.hid (TK.out k x hx)
      clear hcr f1 f2 f3 hc hx hxf
      have A1 : k + 1 ≤ maxLen := by unfold maxLen; omega
      have A2 : (k + 1) * 16 ≤ 140737488355328 := by omega
      generalize x.1.2.nm = xm at *
      generalize hxn : x.1.1 = xn at *
      clear hxn
      obtain ⟨W5, hW5⟩ : ∃ W5, W5 = wr.alloc (.cells #[.string xn, .string xm, .slice q n9 d] 52) := ⟨_, rfl⟩
      have J5 : Hid (Below wr.heap.size wr W5) := Lib.hid (by rw [hW5]; exact below_alloc _ _)
      have H5 : Hid (Has W5 wr.heap.size #[.string xn, .string xm, .slice q n9 d]) := Lib.hid (by rw [hW5]; exact Has.new _ _ _)
      have K5 := Lib.hid (next0 hK.out J5.out)
      have O5 := Lib.hid (own_below (w' := W5) hO.out J5.out)
      have A3 : w2.heap.size ≤ (W5.alloc (.cells #[.string xn] 9)).heap.size := by have := K5.out.size; simp; omega
      obtain ⟨y1, y2, y3⟩ := three H5.out
      clear hO
      go_upto_region 5 with fail
      rw [← hW5]
      clear hW5 c1 c2 c3
      go_wp2_with (at_builtin; refine wpList_append_own _ rfl _ _ 73 rfl w2.heap.size 9 i0 (.string ⟨#[]⟩) 1 16 Tryz.underlying73 hi hz0 hz1 hz2 rfl (by decide) _ k (strs ((L.take k).map (fun x => x.1.1))) rfl (O5.out.alloc _) ⟨W5.heap.size, 0, none⟩ 1 1 [.string xn] rfl rfl (World.news_of_block (heap_alloc_new W5 _)) (one1 _) A1 A2 A3 ?_; intro v6 w6 hown6 hgrow6 _)
      have O6 : Hid (w6.ownsRow w2.heap.size 9 1 v6 (k + 1) (strs ((L.take (k + 1)).map (fun x => x.1.1)))) := Lib.hid (by rw [TK1.out, strs_snoc]; exact hown6)
      have K6 := Lib.hid ((K5.out.alloc (by exact K5.out.size) (.cells #[.string xn] 9)).grown hgrow6 (by have := K5.out.size; simp; omega) (fun j hj => (O5.out.lt j hj).1))
      clear hown6 hgrow6
      go_wp2_with fail
      go_roundw
      case rel => exact ⟨k + 1, by omega, by go_num, O6, K6⟩
      case measure => simp [intOf]; omega
    · obtain rfl : k = m := by omega
      have hnl2 : nm.length = k := by rw [← TE.out, List.length_map, List.length_take, HM.out]; omega
      have O9 : Hid (wr.ownsRow w2.heap.size 9 1 (.slice va k vc) nm.length (strs nm)) := Lib.hid (by have := hO.out; rw [TE.out] at this; rw [hnl2]; exact this)
      have CS9 := Lib.hid (CS.out w2.heap.size wr _ O9.out)
      have NL := Lib.hid hnl2
      clear hnl2 O9 hO CS
      go_wp2_with fail
      refine CS9.out.mono ?_
      rintro e w6 ⟨rfl, hO6, k6⟩
      have K6 := Lib.hid (hK.out.trans k6)
      have CP6 := Lib.hid (CP.out w2.heap.size w6 _ hO6)
      clear hO6 k6 CP CS9
      go_wp2_with fail
      refine CP6.out.mono ?_
      rintro e w7 ⟨p7, c7, rfl, hS7, k7⟩
      have S7 := Lib.hid hS7
      have K7 := Lib.hid (K2.out.trans ((K6.out.trans k7).mono K2.out.size))
      have hle := K2.out.size
      clear hS7 k7 CP6
      go_wp2_with fail
      go_ret
      exact ⟨p7, c7, rfl, fun k x h => by obtain ⟨g, e, h1, h2, h3⟩ := S7.out k x h; exact ⟨g, e, Nat.le_trans hle h1, h2, h3⟩, K7.out⟩
end UnnD
end Go.Proofs.YtaenalpckloikaaGreatDoor
/- Compose of the code: what it answers is the composition of the reference, plain. Conditions: ascending substitutions of at most a thousand bindings; small terms. -/
namespace Go.Proofs.YtaenalpckloikaaGreatDoor
open Go Go.RowKit
namespace UnnE
open LexM TermM TermI Kit TermN TermU TermL TermE TermF UniK UniM UniA UniC UniD UniE UniF UniG UniJ UniO UniR UnjA UnmD UnmE UnmF UnmG UnnB UnnC UnnD
theorem code_snoc (s t : List Bd) (v : ByteArray) : ∀ l : List ByteArray, codeC s t (l ++ [v]) = codeC s t l ++ if keepsV s t v = true then [(v, img s t v)] else []
  | [] => by simp [codeC]
  | x :: l => by
    simp only [List.cons_append, codeC, code_snoc s t v l]
    split <;> simp
set_option maxRecDepth 100000 in
set_option maxHeartbeats 3200000 in
theorem ccomp_any (s t : List Bd) (hS : Srt s) (hT : Srt t) (zs : Sz s) (zt : Sz t) (hls : s.length ≤ 1000) (hlt : t.length ≤ 1000) (hvn : ∀ v ∈ bvars s t, v.size ≤ maxLen) (B : Nat) (w : World) (sv tv : Value) (hB : B ≤ w.heap.size) (hp0 : 0 < w.heap.size) (hs : SIn (· < B) w s sv) (ht : SIn (· < B) w t tv) :
    Calls Tryz.prog 31 #[sv, tv] w (InsR (codeC s t (bvars s t)) w) := by
  have CB := Lib.hid (bound_any s t hls hlt B w sv tv hB hs ht)
  have CAs := Lib.hid (fun v (hv : v.size ≤ maxLen) w' (k : Below w.heap.size w w') => apply_any s hS zs (.mk v []) w'.heap.size w' sv (.slice none 0 0) (Nat.le_refl _) ((hs.deep k hB).wide fun b hb => Nat.lt_of_lt_of_le hb (Nat.le_trans hB k.size)) (SlIn.none _ _) hv (by simp [sizeT, sizeL]))
  have CAt := Lib.hid (fun (u : Tm) (hu : sizeT u ≤ 1000000) (hn : u.nm.size ≤ maxLen) w' (k : Below w.heap.size w w') q (h : SlIn (· < w'.heap.size) w' u.args q) => apply_any t hT zt u w'.heap.size w' tv q (Nat.le_refl _) ((ht.deep k hB).wide fun b hb => Nat.lt_of_lt_of_le hb (Nat.le_trans hB k.size)) h hn hu)
  have LS := Lib.hid (fun v => leaf_size (s := s) (fun y hy => zs.2 y hy) v)
  have IM := Lib.hid (fun v => show appT t (appT s (.mk v [])) = img s t v from rfl)
  have KP := Lib.hid (fun v => show keepsV s t v = !(cmpT (img s t v) (.mk v []) == 0) from rfl)
  have HVN := Lib.hid hvn
  have TK := Lib.hid (fun k v (h : (bvars s t)[k]? = some v) => show codeC s t ((bvars s t).take (k + 1)) = codeC s t ((bvars s t).take k) ++ (if keepsV s t v = true then [(v, img s t v)] else []) from by rw [take_get _ k v h, code_snoc])
  have TE : Hid (codeC s t ((bvars s t).take (bvars s t).length) = codeC s t (bvars s t)) := Lib.hid (by rw [List.take_length])
  have hbl : (bvars s t).length ≤ 1000000 := by
    have h1 : (bvars s t).length ≤ (names s t).length := by
      have h := compact_len ((lists (names s t)).mergeSort fun x y => decide (x ≤ y))
      have h2 : ((lists (names s t)).mergeSort fun x y => decide (x ≤ y)).length = (names s t).length := by simp [lists]
      unfold bvars bytesOf
      rw [List.length_map]
      omega
    unfold names at h1
    simp at h1
    omega
  have CLf := Lib.hid (fun v w' => leaf_nil v w')
  obtain ⟨i0, hi, hz0, hz1, hz2⟩ := info_parts infoB
  clear hs ht hvn hB hS hT zs zt hls hlt
  generalize hbv : bvars s t = bv at *
  have HBV := Lib.hid hbv
  clear hbv
  obtain ⟨m, hm⟩ : ∃ m, bv.length = m := ⟨_, rfl⟩
  have HM := Lib.hid hm
  rw [hm] at CB hbl TE
  clear hm
  go_enter Tryz.func31, Tryz.ntmps31
  go_wp2_with fail
  refine CB.out.mono ?_
  rintro e w2 ⟨pv, cv, rfl, hR, k2⟩
  have K2 := Lib.hid k2
  have R2 := Lib.hid hR
  have hp2 : 0 < w2.heap.size := Nat.lt_of_lt_of_le hp0 k2.size
  clear hR k2 CB
  go_wp2_with fail
  go_loopw [5, 13] (fun v i wr => ∃ (k : Nat) (L : List (Bd × Value)), k ≤ m ∧ i = .int .i64 k ∧ Hid (L.map (·.1) = codeC s t (bv.take k)) ∧ L.length ≤ k ∧ Hid (OwnG KB w2.heap.size wr L v) ∧ Hid (Below w2.heap.size w2 wr)) (fun _ i _ => m - (intOf i).toNat)
  case atStart => exact ⟨0, [], Nat.zero_le _, rfl, Lib.hid rfl, Nat.le_refl _, Lib.hid (OwnG.nil _ _), Lib.hid (Below.refl _ _)⟩
  case round =>
    obtain ⟨k, L, hk, rfl, hE, hL, hO, hK⟩ := hrel
    obtain ⟨va, vc, rfl⟩ := hO.out.form
    by_cases hlt : k < m
    · obtain ⟨v, hv⟩ : ∃ v, bv[k]? = some v := ⟨bv[k]'(by rw [HM.out]; exact hlt), by simp⟩
      obtain ⟨g, rfl, hg1, hg2, hc⟩ := (R2.out.deep hK.out) k v hv
      have hvs := HVN.out v (List.mem_of_getElem? hv)
      have TK1 := Lib.hid (TK.out k v hv)
      have hOl := Lib.hid hO.out.1.lt
      have A1 := bd3 (show L.length ≤ 1000001 by omega)
      have A2 := bd4 (show L.length ≤ 1000001 by omega)
      have HU1 := Lib.hid (LS.out v)
      have IM1 := Lib.hid (IM.out v)
      have KP1 := Lib.hid (KP.out v)
      have D2 := Lib.hid (next0 K2.out hK.out)
      clear hv TK TE LS IM KP
      go_wp2_with fail
      refine (CLf.out v _).mono ?_
      rintro e w3 ⟨rfl, k3⟩
      have D3 := Lib.hid (next0 D2.out k3)
      have K3 := Lib.hid (next0 hK.out k3)
      have O3 := Lib.hid (hO.out.ch (r := 0) (Ch.of k3) hp2)
      have hs3r : wr.heap.size ≤ w3.heap.size := k3.size
      clear hc k3 hO
      have CA1 := Lib.hid (CAs.out v hvs w3 D3.out)
      obtain ⟨u1, hu1⟩ : ∃ u, appT s (.mk v []) = u := ⟨_, rfl⟩
      rw [hu1] at CA1 HU1 IM1
      clear hu1
      unfold RepR at CA1
      go_wp2_with fail
      refine CA1.out.mono ?_
      rintro e w4 ⟨q1, d1, rfl, hS4, hn4, k4⟩
      have D4 := Lib.hid (next0 D3.out k4)
      have K4 := Lib.hid (next0 K3.out k4)
      have O4 := Lib.hid (O3.out.ch (r := 0) (Ch.of k4) hp2)
      have HWR : Hid (wr.heap.size ≤ w4.heap.size) := Lib.hid (Nat.le_trans hs3r k4.size)
      have CA2 := Lib.hid (CAt.out u1 HU1.out hn4 w4 D4.out _ (hS4.weaken fun b hb => hb.2))
      rw [IM1.out] at CA2
      clear hS4 hn4 k4 CA1 O3 CAs CAt HU1
      obtain ⟨u2, hu2⟩ : ∃ u, img s t v = u := ⟨_, rfl⟩
      rw [hu2] at CA2 KP1 TK1
      have HU2 := Lib.hid hu2
      clear hu2 IM1
      generalize u1.nm = un1 at *
      generalize u1.args.length = ua1 at *
      unfold RepR at CA2
      go_wp2_with fail
      refine CA2.out.mono ?_
      rintro e w5 ⟨q2, d2, rfl, hS5, hn5, k5⟩
      have D5 := Lib.hid (next0 D4.out k5)
      have K5 := Lib.hid (next0 K4.out k5)
      have O5 := Lib.hid (O4.out.ch (r := 0) (Ch.of k5) hp2)
      have S5 := Lib.hid hS5
      have N5 := Lib.hid hn5
      have hs45 : w4.heap.size ≤ w5.heap.size := k5.size
      clear hS5 hn5 k5 CA2 O4
      obtain ⟨W6, hW6⟩ : ∃ W6, W6 = w5.alloc (.cells #[.string u2.nm, .slice q2 u2.args.length d2] 27) := ⟨_, rfl⟩
      have J6 : Hid (Below w5.heap.size w5 W6) := Lib.hid (by rw [hW6]; exact below_alloc _ _)
      have H6 : Hid (Has W6 w5.heap.size #[.string u2.nm, .slice q2 u2.args.length d2]) := Lib.hid (by rw [hW6]; exact Has.new _ _ _)
      have hs6 : w5.heap.size + 1 = W6.heap.size := by rw [hW6]; simp
      have K6 := Lib.hid (next0 K5.out J6.out)
      have O6 := Lib.hid (O5.out.ch (r := 0) (Ch.of J6.out) hp2)
      have S6 : Hid (SlIn (fun b => w4.heap.size ≤ b ∧ b < W6.heap.size) W6 u2.args (.slice q2 u2.args.length d2)) := Lib.hid ((S5.out.frame (w' := W6) fun b o hb => J6.out.cell (p := ⟨b, o, none⟩) hb.2).weaken fun b hb => ⟨hb.1, by omega⟩)
      have CC6 := Lib.hid (fun w' (k : Below W6.heap.size W6 w') => TermR.cmp_any u2 w'.heap.size w' (.slice q2 u2.args.length d2) (.mk v []) (.slice none 0 0) (Nat.le_refl _) N5.out hvs ((S6.out.frame (w' := w') fun b o hb => k.cell (p := ⟨b, o, none⟩) hb.2).weaken fun b hb => Nat.lt_of_lt_of_le hb.2 k.size) (SlIn.none _ _))
      have HH6 := Lib.hid (fun w' (k : Below W6.heap.size W6 w') => (H6.out.step0 k).two)
      clear O5 S5 J6 H6
      generalize hcc : cmpT u2 (.mk v []) = cc at *
      clear hcc
      obtain ⟨z, hz⟩ : ∃ z, (cc == 0) = z := ⟨_, rfl⟩
      have hzn : (cc != 0) = !z := by rw [bne, hz]
      have KP2 : Hid (keepsV s t v = !z) := Lib.hid (by rw [KP1.out, hz])
      clear KP1
      generalize hun : u2.nm = un at *
      have HUN := Lib.hid hun
      clear hun
      generalize u2.args.length = ul at *
      obtain ⟨y1, y2, y3, y4, y5⟩ := HH6.out W6 (Below.refl _ _)
      go_upto_region 6 with fail
      rw [← hW6]
      clear hW6
      dsimp only [Tm.nm, Tm.args, List.length_nil] at CC6
      go_region_law (first
        | (go_simp; go_at_call 57; (with_reducible refine (CLf.out v _).mono ?_); rintro e w7 ⟨rfl, k7⟩; have K7 : Hid (Below W6.heap.size W6 w7) := Lib.hid (by first | exact k7 | exact next0 (Below.refl _ _).drew k7 | exact next0 (below_drewN (Below.refl _ _) _) k7); clear k7 y1 y2 y3 y4 y5; obtain ⟨y1, y2, y3, y4, y5⟩ := HH6.out w7 K7.out)
        | (go_simp; go_at_call 60; (with_reducible refine (CC6.out _ (by first | exact K7.out | exact K7.out.drew | exact below_drewN K7.out _)).mono ?_); rintro e w8 ⟨rfl, g8⟩; have K8 : Hid (Below W6.heap.size W6 w8) := Lib.hid (by first | exact next0 K7.out g8.1 | exact next0 K7.out.drew g8.1 | exact next0 (below_drewN K7.out _) g8.1); clear g8 y1 y2 y3 y4 y5; obtain ⟨y1, y2, y3, y4, y5⟩ := HH6.out w8 K8.out))
      all_goals
        have O8 := Lib.hid (O6.out.ch (r := 0) (Ch.of K8.out) hp2)
        have S8 := Lib.hid ((S6.out.frame (w' := w8) fun b o hb => K8.out.cell (p := ⟨b, o, none⟩) hb.2).weaken (ok' := fun b => w4.heap.size ≤ b ∧ b < w8.heap.size) fun b hb => ⟨hb.1, Nat.lt_of_lt_of_le hb.2 K8.out.size⟩)
        have K28 := Lib.hid (next0 K6.out K8.out)
        have hs68 : W6.heap.size ≤ w8.heap.size := K8.out.size
        clear CC6 O6 S6 HH6
        cases z
        · have E9 : Hid ((L ++ [((v, u2), Value.slice q2 ul d2)]).map (·.1) = codeC s t (bv.take (k + 1))) := Lib.hid (by rw [TK1.out, KP2.out, List.map_append, hE.out]; rfl)
          have KI : Hid (KB.inn (fun b => w4.heap.size ≤ b ∧ b < w8.heap.size) w8 ((v, u2), Value.slice q2 ul d2)) := Lib.hid ⟨S8.out, by show u2.nm.size ≤ maxLen; rw [HUN.out]; exact N5.out, hvs⟩
          have hzb : w2.heap.size ≤ (w8.alloc (.cells #[.string v, .string un, .slice q2 ul d2] 52)).heap.size := by have := K28.out.size; simp; omega
          have h24 : w2.heap.size ≤ w4.heap.size := K4.out.size
          have hvl : ∀ k, (Value.slice va L.length vc).ownBlock = some k → k < w4.heap.size := fun k hk => by have := (hOl.out k hk).2; have := K3.out.size; have h9 : wr.heap.size ≤ w4.heap.size := HWR.out; omega
          clear TK1 KP2 S8 hE
          go_wp2_with (at_builtin; refine wpList_append_lies _ rfl _ _ 22 rfl w2.heap.size 52 i0 zB 3 56 Tryz.underlying22 hi hz0 hz1 hz2 rfl (by decide) (.slice va L.length vc) L.length (KB.flat L) rfl (O8.out.1.alloc _) ⟨w8.heap.size, 0, none⟩ 1 1 [.string v, .string un, .slice q2 ul d2] rfl rfl (newsK _ _ _ _ _) (one_B _ _ _ _ _) (by decide) A1 A2 hzb (w8.heap.size + 1) (by simp) ?_; intro g5 cap5 w9 hown hgrow hat hlt5)
          have HA := OwnG.add (lo := w4.heap.size) (x := ((v, u2), Value.slice q2 ul d2)) (K := KB) O8.out KI.out h24 hvl (by have e := HUN.out; rw [← e] at hown; exact hown) hgrow hat
          have K9 := Lib.hid ((K28.out.alloc (by exact K28.out.size) _).grown hgrow (by have := K28.out.size; simp; omega) (fun k hk => by have := (hOl.out k hk).1; omega))
          have O9 := Lib.hid HA
          have LL : (L ++ [((v, u2), Value.slice q2 ul d2)]).length ≤ k + 1 := by simp; omega
          clear HA hown hgrow hat KI O8
          go_wp2_with fail
          go_roundw
          case rel => exact ⟨k + 1, _, by omega, by go_num, E9, LL, O9, K9⟩
          case measure => simp [intOf]; omega
        · have E9 : Hid (L.map (·.1) = codeC s t (bv.take (k + 1))) := Lib.hid (by rw [TK1.out, KP2.out, hE.out]; simp)
          clear TK1 KP2 S8 hE
          go_wp2_with fail
          go_roundw
          case rel => exact ⟨k + 1, L, by omega, by go_num, E9, by omega, O8, K28⟩
          case measure => simp [intOf]; omega
    · obtain rfl : k = m := by omega
      have SI : Hid (SIn (· < wr.heap.size) wr (codeC s t bv) (.slice va L.length vc)) := Lib.hid ⟨L, by rw [hE.out, TE.out], (hO.out.row).wide fun b hb => hb.2⟩
      have KW := Lib.hid (next0 K2.out hK.out)
      clear hE hO TE
      go_wp2_with fail
      go_ret
      exact ⟨_, rfl, SI.out, KW.out⟩
end UnnE
end Go.Proofs.YtaenalpckloikaaGreatDoor
/- Compose of the reference: what it answers is compF. Conditions: substitutions of variables, of at most a thousand bindings; small terms. -/
namespace Go.Proofs.YtaenalpckloikaaGreatDoor
open Go Go.RowKit
namespace UnnF
open LexM TermM TermI Kit TermN TermU UniK UniM UniA UniC UniD UniE UniG UniH UniJ UniO UniR UnjA
set_option maxRecDepth 100000 in
set_option maxHeartbeats 1600000 in
theorem rcomp_any (s t : List Bd) (hVs : ∀ b ∈ s, varB b.1 = true) (hVt : ∀ b ∈ t, varB b.1 = true) (hzs : ∀ y ∈ s, sizeT y.2 ≤ 1000000) (hls : s.length ≤ 1000) (hlt : t.length ≤ 1000) (B : Nat) (w : World) (sv tv : Value) (hB : B ≤ w.heap.size) (hs : SIn (· < B) w s sv) (ht : SIn (· < B) w t tv) :
    Calls Tryz.prog 32 #[sv, tv] w (InsR (compF s t (s ++ t).length) w) := by
  have CT := Lib.hid (fun (u : Tm) (hu : sizeT u ≤ 1000000) w' q (k : Below w.heap.size w w') (h : SlIn (· < w'.heap.size) w' u.args q) (hn : u.nm.size ≤ maxLen) => rapply_any t hVt u w'.heap.size w' tv q (Nat.le_refl _) ((ht.deep k hB).wide fun b hb => Nat.lt_of_lt_of_le hb (Nat.le_trans hB k.size)) h hn hu)
  have C0 := Lib.hid (fun (xv : ByteArray) (hx : xv.size ≤ maxLen) w' (k : Below w.heap.size w w') => (rapply_any s hVs (.mk xv []) w'.heap.size w' sv (.slice none 0 0) (Nat.le_refl _) ((hs.deep k hB).wide fun b hb => Nat.lt_of_lt_of_le hb (Nat.le_trans hB k.size)) (SlIn.none _ _) hx (by simp [sizeT, sizeL]) : Calls Tryz.prog 21 #[sv, .agg #[.string xv, .slice none 0 0]] w' (RApR w'.heap.size (appT s (.mk xv [])) w')))
  have LS := Lib.hid (fun v => leaf_size hzs v)
  obtain ⟨p1, c1, rfl, hc1, hm1, hR1⟩ := SIn.row hs
  obtain ⟨p2, c2, rfl, hc2, hm2, hR2⟩ := SIn.row ht
  have HR1 := Lib.hid hR1
  have HR2 := Lib.hid hR2
  have HB := Lib.hid hB
  have NL := Lib.hid (fun k (x : Bd) (h : s[k]? = some x) => comp_next s t k x.1 (names_left h))
  have NR := Lib.hid (fun j (x : Bd) (h : t[j]? = some x) => comp_next s t (s.length + j) x.1 (names_right h))
  have CL := Lib.hid (fun k (h : k ≤ (s ++ t).length) => comp_len s t k h)
  have HLL : (s ++ t).length = s.length + t.length := List.length_append
  rw [HLL] at CL ⊢
  clear hs ht hR1 hR2 hB hc1 hc2 hm1 hm2 hVs hVt hzs HLL
  generalize hn1 : s.length = n at *
  generalize hn2 : t.length = m at *
  have HN1 := Lib.hid hn1
  have HN2 := Lib.hid hn2
  clear hn1 hn2
  have hwn : IntKind.i64.wrap ((n : Int) + (m : Int)) = (n : Int) + (m : Int) := by rw [IntKind.wrap_i64]; omega
  go_enter Tryz.func32, Tryz.ntmps32
  go_wp2_with fail
  go_loopw [5, 6] (fun v i wr => ∃ k : Nat, k ≤ n + m ∧ i = .int .i64 k ∧ Hid (SIn (· < wr.heap.size) wr (compF s t k) v) ∧ Hid (Below w.heap.size w wr)) (fun _ i _ => n + m - (intOf i).toNat)
  case atStart => exact ⟨0, Nat.zero_le _, rfl, Lib.hid (SIn.nil _ _), Lib.hid (Below.refl _ _)⟩
  case round =>
    obtain ⟨k, hk, rfl, hO, hD⟩ := hrel
    by_cases hlt' : k < n + m
    · have hki : (k : Int) < ((n : Int) + (m : Int)) := by omega
      go_upto_if 24 with fail
      go_cut [7] (fun v7 wx => ∃ xv : ByteArray, v7 = .string xv ∧ Hid (compF s t (k + 1) = cstep s t (compF s t k) xv ∧ xv.size ≤ maxLen) ∧ wx = wr)
      case first =>
        by_cases hkn : k < n
        · obtain ⟨x, b, o, q, d, hx, rfl, hb, e1, e2, e3, hxs, hxn, hxv⟩ := (RowS.deep HR1.out hD.out HB.out) k (by rw [HN1.out]; exact hkn)
          have NX := Lib.hid (And.intro (NL.out k x hx) hxv)
          clear hx hxs hxn hxv e2 e3 C0 CT LS CL
          generalize x.1 = xv at *
          go_wp2_with fail
          go_meet
          exact ⟨xv, rfl, NX, rfl⟩
        · obtain ⟨j, rfl⟩ : ∃ j, k = n + j := ⟨k - n, by omega⟩
          have hkn' : ¬ (((n + j : Nat) : Int) < (n : Int)) := by omega
          have hwj : IntKind.i64.wrap (((n + j : Nat) : Int) - (n : Int)) = (j : Int) := by rw [IntKind.wrap_i64]; omega
          have hwj2 : IntKind.i64.wrap ((n : Int) + (j : Int) - (n : Int)) = (j : Int) := by rw [IntKind.wrap_i64]; omega
          have hj0 : (n : Int) + (j : Int) - (n : Int) = (j : Int) := by omega
          obtain ⟨x, b, o, q, d, hx, rfl, hb, e1, e2, e3, hxs, hxn, hxv⟩ := (RowS.deep HR2.out hD.out HB.out) j (by rw [HN2.out]; omega)
          have NX := Lib.hid (And.intro (NR.out j x hx) hxv)
          clear hx hxs hxn hxv e2 e3 C0 CT LS CL
          generalize x.1 = xv at *
          go_wp2_with fail
          go_meet
          exact ⟨xv, rfl, NX, rfl⟩
      case rest =>
        obtain ⟨xv, rfl, NX, rfl⟩ := hcut
        have XV := Lib.hid NX.out.2
        have NY := Lib.hid NX.out.1
        have hkl : (compF s t k).length ≤ 1000000 := by have := CL.out k (by omega); omega
        clear NX HR1 HR2 NL NR
        generalize compF s t k = out at *
        obtain ⟨W7, hW7⟩ : ∃ W7, W7 = wc.alloc (.cells #[.string xv, .slice none 0 0] 27) := ⟨_, rfl⟩
        have K7 : Hid (Below wc.heap.size wc W7) := Lib.hid (by rw [hW7]; exact below_alloc _ _)
        have H7 : Hid (Has W7 wc.heap.size #[.string xv, .slice none 0 0]) := Lib.hid (by rw [hW7]; exact Has.new _ _ _)
        have D7 := Lib.hid (next0 hD.out K7.out)
        have C1 := Lib.hid (C0.out xv XV.out W7 D7.out)
        have hz1 := LS.out xv
        have CX := Lib.hid (fun w' q (k : Below w.heap.size w w') h hn => CT.out (appT s (.mk xv [])) hz1 w' q k h hn)
        have EC : Hid (cstep s t out xv = if (lookS out xv).isNone && !(cmpT (appT t (appT s (.mk xv []))) (.mk xv []) == 0) then putS (xv, appT t (appT s (.mk xv []))) out else out) := Lib.hid rfl
        rw [EC.out] at NY
        clear EC C0 CT LS CL hz1
        generalize appT s (.mk xv []) = u1 at *
        generalize appT t u1 = u2 at *
        unfold RApR at C1 CX
        obtain ⟨y1, y2, y3, y4, y5⟩ := H7.out.two
        go_upto_region 10 with fail
        rw [← hW7]
        clear hW7
        go_wp2_with fail
        refine C1.out.mono ?_
        rintro e w8 ⟨q1, d1, rfl, hS8, hn8, k8⟩
        have D8 := Lib.hid (next0 D7.out k8)
        have K8 := Lib.hid (next0 K7.out k8)
        have H8 := Lib.hid (H7.out.step0 k8)
        have CY := Lib.hid (CX.out w8 _ D8.out (hS8.weaken fun b hb => by have := k8.size; omega) hn8)
        clear hS8 hn8 k8 C1 CX K7 H7 y1 y2 y3 y4 y5
        generalize u1.nm = un1 at *
        generalize u1.args.length = ua1 at *
        go_wp2_with fail
        refine CY.out.mono ?_
        rintro e w9 ⟨q2, d2, rfl, hS9, hn9, k9⟩
        have D9 := Lib.hid (next0 D8.out k9)
        have K9 := Lib.hid (next0 K8.out k9)
        have H9 := Lib.hid (H8.out.step0 k9)
        have N9 := Lib.hid hn9
        have S9 := Lib.hid (hS9.weaken (ok' := (· < w9.heap.size)) fun b hb => by have := k9.size; omega)
        clear hS9 hn9 k9 CY K8 H8
        obtain ⟨WA, hWA⟩ : ∃ WA, WA = w9.alloc (.cells #[.string u2.nm, .slice q2 u2.args.length d2] 27) := ⟨_, rfl⟩
        have JA : Hid (Below w9.heap.size w9 WA) := Lib.hid (by rw [hWA]; exact below_alloc _ _)
        have TA : Hid (Has WA w9.heap.size #[.string u2.nm, .slice q2 u2.args.length d2]) := Lib.hid (by rw [hWA]; exact Has.new _ _ _)
        have DA := Lib.hid (next0 D9.out JA.out)
        have KA := Lib.hid (next0 K9.out JA.out)
        have HA := Lib.hid (H9.out.step0 JA.out)
        have SO := Lib.hid (fun w' (k : Below wc.heap.size wc w') => (hO.out.deep k (Nat.le_refl _)).wide (ok' := (· < w'.heap.size)) fun b hb => Nat.lt_of_lt_of_le hb k.size)
        have SU := Lib.hid (fun w' (k : Below WA.heap.size WA w') => (S9.out.deep (next0 JA.out k) (Nat.le_refl _)).weaken (ok' := (· < w'.heap.size)) fun b hb => Nat.lt_of_lt_of_le hb (next0 JA.out k).size)
        have CL1 := Lib.hid (rlookup_any out xv WA.heap.size WA u5 (Nat.le_refl _) (SO.out WA KA.out))
        have CE := Lib.hid (fun w' (k : Below WA.heap.size WA w') => TermEq.term_any u2 (cmpT u2 (.mk xv []) == 0) w'.heap.size w' (.slice q2 u2.args.length d2) (.mk xv []) (.slice none 0 0) (by rw [beq_iff_eq, cmp_zero]) (Nat.le_refl _) (SU.out w' k) (SlIn.none _ _))
        have CP := Lib.hid (fun w' (k : Below WA.heap.size WA w') => put_any out (xv, u2) hkl w'.heap.size w' u5 (.slice q2 u2.args.length d2) (Nat.le_refl _) (SO.out w' (next0 KA.out k)) ⟨SU.out w' k, N9.out, XV.out⟩)
        have HT := Lib.hid (fun w' (k : Below WA.heap.size WA w') => And.intro (HA.out.step0 k).two (TA.out.step0 k).two)
        clear S9 H9 K9 SU TA HA N9 D9 JA hO
        generalize lookS out xv = o9 at *
        generalize hzz : (cmpT u2 (.mk xv []) == 0) = zz at *
        clear hzz
        dsimp only at CP
        generalize u2.nm = un2 at *
        generalize u2.args.length = ua2 at *
        dsimp only [Tm.nm, Tm.args, List.length_nil] at CE
        unfold RLkR at CL1
        unfold InsR at CP
        go_upto_region 11 with fail
        rw [← hWA]
        clear hWA
        go_wp2_with fail
        refine CL1.out.mono ?_
        rintro e wb ⟨u, q, d, f, rfl, hc, hSu, hnu, kb⟩
        have HC : Hid (f = !o9.isNone) := Lib.hid (by
          rcases hc with ⟨h, hf⟩ | ⟨h, _, hf⟩
          · rw [h, hf]; rfl
          · rw [h, hf]; rfl)
        clear hSu hnu hc CL1
        generalize u.nm = un at *
        generalize u.args.length = ua at *
        obtain ⟨WC, hWC⟩ : ∃ WC, WC = wb.alloc (.cells #[.string un, .slice q ua d] 27) := ⟨_, rfl⟩
        have JC : Hid (Below WA.heap.size WA WC) := Lib.hid (by rw [hWC]; exact next0 kb (below_alloc _ _))
        clear kb
        go_upto_region 12 with fail
        rw [← hWC]
        clear hWC
        obtain ⟨⟨y1, y2, _⟩, z1, z2, _⟩ := HT.out WC JC.out
        cases f
        · have ho : o9.isNone = true := by have := HC.out; cases h : o9.isNone <;> rw [h] at this <;> first | rfl | cases this
          rw [ho] at NY
          clear ho HC
          go_wp2_with fail
          refine (CE.out WC JC.out).mono ?_
          rintro e wd ⟨rfl, gd⟩
          have JD := Lib.hid (next0 JC.out gd.1)
          clear gd y1 y2 z1 z2
          obtain ⟨⟨y1, y2, _⟩, z1, z2, _⟩ := HT.out wd JD.out
          cases zz
          · go_wp2_with fail
            refine (CP.out wd JD.out).mono ?_
            rintro e we ⟨v9, rfl, hS, ke⟩
            have RS := Lib.hid hS
            have DE := Lib.hid (next0 (next0 DA.out JD.out) ke)
            clear hS ke
            go_wp2_with fail
            go_roundw
            case rel => exact ⟨k + 1, by omega, by go_num, Lib.hid (by rw [NY.out]; exact RS.out), DE⟩
            case measure => simp [intOf]; omega
          · go_wp2_with fail
            go_roundw
            case rel => exact ⟨k + 1, by omega, by go_num, Lib.hid (by rw [NY.out]; exact SO.out _ (next0 KA.out JD.out)), Lib.hid (next0 DA.out JD.out)⟩
            case measure => simp [intOf]; omega
        · have ho : o9.isNone = false := by have := HC.out; cases h : o9.isNone <;> rw [h] at this <;> first | rfl | cases this
          rw [ho] at NY
          clear ho HC
          go_wp2_with fail
          go_roundw
          case rel => exact ⟨k + 1, by omega, by go_num, Lib.hid (by rw [NY.out]; exact SO.out _ (next0 KA.out JC.out)), Lib.hid (next0 DA.out JC.out)⟩
          case measure => simp [intOf]; omega
    · obtain rfl : k = n + m := by omega
      have hki : ¬ (((n + m : Nat) : Int) < ((n : Int) + (m : Int))) := by omega
      go_wp2_with fail
      go_ret
      exact ⟨_, rfl, hO.out, hD.out⟩
end UnnF
end Go.Proofs.YtaenalpckloikaaGreatDoor
/- Small terms at the bound 40. Made by gensmall.py. No conditions. -/
namespace Go.Proofs.YtaenalpckloikaaGreatDoor
open Go Go.RowKit
namespace Sm40
open LexM TermM TermI Kit TermN TermS UniK UniM UniA
set_option maxRecDepth 100000 in
set_option maxHeartbeats 1600000 in
theorem parts_any (D : Nat) : ∀ (t : Tm) (B : Nat) (w : World) (sv : Value), D ≤ 40 → B ≤ w.heap.size → SlIn (· < B) w t.args sv →
    Calls Tryz.prog 49 #[.agg #[.string t.nm, sv], .int .i64 40, .int .i64 D] w fun e w' => e = .returned (.int .i64 (partsT 40 D t)) ∧ Gr w w' := by
  induction D with
  | zero =>
    intro t B w sv hD hB h
    obtain ⟨p, c, rfl, hn, hc, hm, hR⟩ := h.row
    clear hR h
    go_enter Tryz.func49, Tryz.ntmps49
    go_wp2_with fail
    go_ret
    exact ⟨rfl, Gr.alloc _ _⟩
  | succ D ih =>
    rintro ⟨n, l⟩ B w sv hD hB h
    dsimp only [Tm.args, Tm.nm] at h ⊢
    obtain ⟨p, c, rfl, hn, hc, hm, hR⟩ := h.row
    obtain ⟨E, hE⟩ : ∃ E : Int, E = ((D + 1 : Nat) : Int) := ⟨_, rfl⟩
    rw [← hE]
    have hE1 : 1 ≤ E := by omega
    have hE2 : E ≤ 40 := by omega
    have hE3 : (D : Int) = E - 1 := by omega
    have IH : Hid (∀ (t : Tm) (w : World) (v : Value), B ≤ w.heap.size → SlIn (· < B) w t.args v → Calls Tryz.prog 49 #[.agg #[.string t.nm, v], .int .i64 40, .int .i64 (E - 1)] w fun e w' => e = .returned (.int .i64 (partsT 40 D t)) ∧ Gr w w') :=
      Lib.hid (fun t w v hB h => by rw [← hE3]; exact ih t B w v (by omega) hB h)
    clear hE3 hE
    have NX := Lib.hid (upN_next 40 D l)
    have ST := Lib.hid (upN_stuck 40 D l)
    have PB : Hid (∀ t, partsT 40 D t ≤ 20000) := Lib.hid (fun t => by
      have h1 := parts_le 40 D t
      have h2 : (D + 1) * (40 + 1) ≤ 41 * 42 := Nat.le_trans (Nat.mul_le_mul_right 41 (show _ ≤ 42 by omega)) (by decide)
      omega)
    have UB : Hid (∀ k, upN 40 D (l.take k) ≤ 20000) := Lib.hid (fun k => by
      have h1 : upN 40 D (l.take k) = partsT 40 (D + 1) (.mk n (l.take k)) := by simp only [partsT]; rfl
      have h2 := parts_le 40 (D + 1) (.mk n (l.take k))
      have h3 : (D + 1 + 1) * (40 + 1) ≤ 41 * 42 := Nat.le_trans (Nat.mul_le_mul_right 41 (show _ ≤ 42 by omega)) (by decide)
      omega)
    have FL : Hid (upN 40 D (l.take l.length) = upN 40 D l) := Lib.hid (by simp)
    have RT : Hid (partsT 40 (D + 1) (.mk n l) = upN 40 D l) := Lib.hid (by simp only [partsT]; rfl)
    have U0 : Hid (upN 40 D (l.take 0) = 1) := Lib.hid (by simp [upN])
    have HB := Lib.hid hB
    have HR := Lib.hid hR
    generalize partsT 40 (D + 1) (.mk n l) = R at *
    generalize hm' : l.length = m at *
    have HM := Lib.hid hm'
    clear ih hR h hm' hn
    unfold maxLen at hm
    go_enter Tryz.func49, Tryz.ntmps49
    go_wp2_with fail
    go_loopw [7, 16] (fun d i wr => ∃ k : Nat, k ≤ m ∧ i = .int .i64 k ∧ d = .int .i64 (upN 40 D (l.take k)) ∧ Hid (Gr (w.alloc (.cells #[.string n, .slice p m c] 27)) wr)) (fun _ i _ => m - (intOf i).toNat)
    case atStart => exact ⟨0, Nat.zero_le _, rfl, by rw [U0.out]; rfl, Lib.hid (Gr.refl _)⟩
    case round =>
      obtain ⟨k, hk, rfl, rfl, hg⟩ := hrel
      have hd := UB.out k
      by_cases hlt : k < m
      · obtain ⟨t, b, o, q, d, ht, rfl, hb, c1, c2, hs, hts⟩ := (HR.out.gr ((Gr.alloc _ _).trans hg.out) HB.out) k (by rw [HM.out]; exact hlt)
        obtain ⟨b0, b1, _, _, hbl⟩ := (hg.out.has (Has.new w _ _)).two
        have n1 := NX.out k t ht
        have n2 := PB.out t
        by_cases hst : 40 < upN 40 D (l.take k)
        · have HF := Lib.hid (ST.out k hst)
          clear n1
          go_wp2_with fail
          go_ret
          exact ⟨ret_int (by rw [RT.out, HF.out]), (Gr.alloc _ _).trans hg.out⟩
        · rw [if_neg hst] at n1
          have HD := Lib.hid n1
          have HS := Lib.hid hs
          clear n1 ht hs
          have hst' : upN 40 D (l.take k) ≤ 40 := by omega
          go_wp2_with fail
          refine (IH.out _ _ _ (Nat.le_trans HB.out ((Gr.alloc _ _).trans hg.out).size) HS.out).mono ?_
          rintro e w' ⟨rfl, g2⟩
          have hg2 := Lib.hid (hg.out.trans g2)
          clear g2
          go_wp2_with fail
          go_roundw
          case rel => exact ⟨k + 1, by omega, by go_num, by rw [HD.out]; first | rfl | (congr 1; omega), hg2⟩
          case measure => simp [intOf]; omega
      · obtain rfl : k = m := by omega
        have HF := Lib.hid FL.out
        go_wp2_with fail
        go_ret
        exact ⟨ret_int (by rw [RT.out, HF.out]), (Gr.alloc _ _).trans hg.out⟩
theorem small_any (t : Tm) (B : Nat) (w : World) (sv : Value) (hB : B ≤ w.heap.size) (h : SlIn (· < B) w t.args sv) :
    Calls Tryz.prog 25 #[.agg #[.string t.nm, sv], .int .i64 40] w fun e w' => e = .returned (.bool (decide (partsT 40 40 t ≤ 40))) ∧ Gr w w' := by
  obtain ⟨p, c, rfl, hn, hc, hm, hR⟩ := h.row
  have HC : Hid (Calls Tryz.prog 49 #[.agg #[.string t.nm, .slice p t.args.length c], .int .i64 40, .int .i64 40] (w.alloc (.cells #[.string t.nm, .slice p t.args.length c] 27)) fun e w' => e = .returned (.int .i64 (partsT 40 40 t)) ∧ Gr (w.alloc (.cells #[.string t.nm, .slice p t.args.length c] 27)) w') :=
    Lib.hid (parts_any 40 t B _ _ (by omega) (Nat.le_trans hB (Gr.alloc _ _).size) (h.gr (Gr.alloc _ _) hB))
  clear hR h hn
  go_enter Tryz.func25, Tryz.ntmps25
  go_wp2_with fail
  refine HC.out.mono ?_
  rintro e w' ⟨rfl, g2⟩
  have hg2 := Lib.hid ((Gr.alloc _ _).trans g2)
  clear g2
  go_wp2_with fail
  go_ret
  exact ⟨ret_bool (by rw [Bool.eq_iff_iff]; simp; omega), hg2.out⟩
end Sm40
end Go.Proofs.YtaenalpckloikaaGreatDoor
