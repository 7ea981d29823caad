/- Join of the code. Conditions: the tokens' number and the joined text's length. -/
import Derived.Test.YtckddlglldfniaaDoorLexG
import Derived.Test.YtckddlglldfniaaDoorShelf
namespace Go.Proofs.YtckddlglldfniaaDoor
open Go Go.RowKit
namespace LexI
open Kit LexM LexG
abbrev GTok := Int × ByteArray × Int
/-- The tokens ts lie at an address, three cells each. -/
def Toks (w : World) (g off : Nat) (ts : List GTok) : Prop := g < w.heap.size ∧ ∀ i t, ts[i]? = some t → w.cell? ⟨g, off + i * 3, none⟩ = some (.int .i64 t.1) ∧ w.cell? ⟨g, off + i * 3 + 1, none⟩ = some (.string t.2.1) ∧ w.cell? ⟨g, off + i * 3 + 2, none⟩ = some (.int .i64 t.2.2)
theorem Toks.below {w w' : World} {g off B : Nat} {ts : List GTok} (h : Toks w g off ts) (hb : Below B w w') (hB : g < B) : Toks w' g off ts :=
  ⟨Nat.lt_of_lt_of_le h.1 hb.size, fun i t hi => ⟨(hb.cell (p := ⟨g, off + i * 3, none⟩) hB).trans (h.2 i t hi).1, (hb.cell (p := ⟨g, off + i * 3 + 1, none⟩) hB).trans (h.2 i t hi).2.1, (hb.cell (p := ⟨g, off + i * 3 + 2, none⟩) hB).trans (h.2 i t hi).2.2⟩⟩
def texts (ts : List GTok) : List ByteArray := (ts.filter (fun t => !(t.1 == 0))).map (fun t => t.2.1)
def joinT (ts : List GTok) : List UInt8 := Lib.join ((texts ts).map (·.data.toList)) [32]
theorem texts_snoc (ts : List GTok) (k : Nat) (t : GTok) (h : ts[k]? = some t) : texts (ts.take (k + 1)) = if t.1 = 0 then texts (ts.take k) else texts (ts.take k) ++ [t.2.1] := by
  rw [List.take_add_one, h]
  by_cases c : t.1 = 0
  · rw [if_pos c]; simp [texts, c]
  · rw [if_neg c]; simp [texts, c]
theorem texts_len (ts : List GTok) (k : Nat) : (texts (ts.take k)).length ≤ k := by
  unfold texts
  rw [List.length_map]
  exact Nat.le_trans (List.length_filter_le _ _) (List.length_take_le _ _)
theorem infoS : (Tryd.prog.info? 9).map (fun i => (i.zero, i.size, i.bytes)) = some (some (.string ⟨#[]⟩), 1, 16) := by kernel_rfl
theorem news1 (w : World) (a : Value) (t : TypeId) : ∀ j u, [a][j]? = some u → (w.alloc (.cells #[a] t)).cell? ((⟨w.heap.size, 0, none⟩ : Addr).add j) = some u := World.news_of_block (heap_alloc_new w _)
theorem news1' (w : World) (o : Obj) (a : Value) (t : TypeId) : ∀ j u, [a][j]? = some u → ((w.alloc o).alloc (.cells #[a] t)).cell? ((⟨w.heap.size + 1, 0, none⟩ : Addr).add j) = some u := by
  have h := news1 (w.alloc o) a t
  rwa [World.size_alloc] at h
theorem one1 (b : ByteArray) : ∀ u ∈ [Value.string b], u.oneCell' = true := by
  intro u hu
  simp at hu
  subst hu
  rfl
set_option maxRecDepth 100000 in
set_option maxHeartbeats 3200000 in
theorem join_any (a : Option Addr) (g off m cap : Nat) (ts : List GTok) (w : World) (ha : m = 0 ∨ a = some ⟨g, off, none⟩) (hT : m = 0 ∨ Toks w g off ts) (hl : ts.length = m) (hm : m ≤ 1000000) (hj : (joinT ts).length ≤ 140737488355328) :
    Calls Tryd.prog 16 #[.slice a m cap] w fun e w' => e = .returned (.string ⟨(joinT ts).toArray⟩) ∧ Below w.heap.size w w' := by
  obtain ⟨i0, hi, hz0, hz1, hz2⟩ := info_parts infoS
  have HA := Lib.hid ha
  have HT := Lib.hid hT
  have HL := Lib.hid hl
  have JT : Hid (joinT ts = Lib.join ((texts ts).map (·.data.toList)) [32]) := by unfold joinT; exact rfl
  have HJ : Hid ((Lib.join ((texts ts).map (·.data.toList)) [32]).length ≤ 140737488355328) := by rw [← JT.out]; exact hj
  generalize joinT ts = JL at *
  clear ha hT hl hj
  go_enter Tryd.func16, Tryd.ntmps16
  go_wp2_with fail
  go_loopw [3, 8] (fun v i wL => ∃ k : Nat, k ≤ m ∧ i = .int .i64 k ∧ Hid (wL.ownsRow w.heap.size 9 1 v (texts (ts.take k)).length ((texts (ts.take k)).map Value.string)) ∧ Hid (Below w.heap.size w wL)) (fun _ i _ => m - (intOf i).toNat)
  case atStart => exact ⟨0, Nat.zero_le _, rfl, Lib.hid ⟨rfl, Or.inl ⟨rfl, rfl⟩⟩, Lib.hid (Below.refl _ _)⟩
  case round =>
    obtain ⟨k, hk, rfl, hO, hB⟩ := hrel
    by_cases hlt : k < m
    · obtain rfl : a = some ⟨g, off, none⟩ := by
        rcases HA.out with h | h
        · omega
        · exact h
      have TT : Toks w g off ts := by
        rcases HT.out with h | h
        · omega
        · exact h
      obtain ⟨t, ht⟩ : ∃ t, ts[k]? = some t := ⟨ts[k]'(by rw [HL.out]; exact hlt), by simp⟩
      have TB := TT.below hB.out TT.1
      obtain ⟨c1, c2, c3⟩ := TB.2 k t ht
      have SN := Lib.hid (texts_snoc ts k t ht)
      have LN := texts_len ts k
      clear ht TT
      obtain ⟨t1, t2, t3⟩ := t
      dsimp only at c1 c2 c3 SN
      by_cases h0 : t1 = 0
      · subst h0
        have SN' := SN.out
        rw [if_pos rfl] at SN'
        have SN2 := Lib.hid SN'
        clear SN' SN
        generalize texts (ts.take k) = acc at *
        go_wp2_with fail
        go_roundw
        case rel => exact ⟨k + 1, by omega, by go_num, by rw [SN2.out]; exact Lib.hid (hO.out.alloc _), Lib.hid (hB.out.alloc hB.out.size _)⟩
        case measure => simp [intOf]; omega
      · have h1 : (t1 != 0) = true := by simpa using h0
        have SN' := SN.out
        rw [if_neg h0] at SN'
        have SN2 := Lib.hid SN'
        clear SN' SN
        generalize texts (ts.take k) = acc at *
        have A1 : acc.length + 1 ≤ maxLen := by unfold maxLen; omega
        have A2 : (acc.length + 1) * 16 ≤ 140737488355328 := by omega
        have A3 : w.heap.size ≤ ((wr.alloc (.cells #[.int .i64 t1, .string t2, .int .i64 t3] 30)).alloc (.cells #[.string t2] 9)).heap.size := by have := hB.out.size; simp; omega
        have B1 := Lib.hid ((hB.out.alloc hB.out.size (.cells #[.int .i64 t1, .string t2, .int .i64 t3] 30)).alloc (by have := hB.out.size; simp; omega) (.cells #[.string t2] 9))
        have O1 := Lib.hid ((hO.out.alloc (.cells #[.int .i64 t1, .string t2, .int .i64 t3] 30)).alloc (.cells #[.string t2] 9))
        go_wp2_with (at_builtin; refine wpList_append_own _ rfl _ _ 44 rfl w.heap.size 9 i0 (.string ⟨#[]⟩) 1 16 Tryd.underlying44 hi hz0 hz1 hz2 rfl (by decide) _ _ _ rfl O1.out ⟨wr.heap.size + 1, 0, none⟩ 1 1 [.string t2] rfl rfl (news1' wr _ _ _) (one1 _) A1 A2 A3 ?_; intro v1 w1 hown1 hgrow1 _)
        have O2 : Hid (w1.ownsRow w.heap.size 9 1 v1 (texts (ts.take (k + 1))).length ((texts (ts.take (k + 1))).map Value.string)) := by
          rw [SN2.out, List.length_append, List.map_append]; exact hown1
        have B2 := Lib.hid (B1.out.grown hgrow1 A3 (own_ge hO.out))
        go_roundw
        case rel => exact ⟨k + 1, by omega, by go_num, O2, B2⟩
        case measure => simp [intOf]; omega
    · obtain rfl : k = m := by omega
      rw [List.take_of_length_le (by rw [HL.out]; exact Nat.le_refl _)] at hO
      have LN := texts_len ts k
      rw [List.take_of_length_le (by rw [HL.out]; exact Nat.le_refl _)] at LN
      generalize texts ts = acc at *
      by_cases h0 : acc = []
      · subst h0
        obtain ⟨av, cv, rfl⟩ : ∃ av cv, u3 = .slice av 0 cv := by
          rcases hO.out.2 with ⟨h, _⟩ | ⟨g', cap', _, h, _⟩
          · exact ⟨none, 0, h⟩
          · exact ⟨_, _, h⟩
        go_wp2_with fail
        refine (Tryd.strings_Join_none _ _ _ _).mono ?_
        rintro e w' ⟨rfl, rfl⟩
        go_wp2_with fail
        go_ret
        exact ⟨by rw [JT.out]; exact rfl, hB.out⟩
      · obtain ⟨gv, cv, rfl, hge, hcv⟩ : ∃ gv cv, u3 = .slice (some ⟨gv, 0, none⟩) acc.length cv ∧ gv < wr.heap.size ∧ acc.length ≤ cv := by
          rcases hO.out.2 with ⟨h, hn⟩ | ⟨g', cap', cur, h, _, hh, hc, _⟩
          · exact absurd (List.length_eq_zero_iff.1 hn) h0
          · exact ⟨g', cap', h, (Array.getElem?_eq_some_iff.1 hh).1, hc⟩
        have JC := Lib.hid (Tryd.strings_Join gv 0 cv acc ⟨#[32]⟩ wr (fun j x hx => by
          rw [Nat.zero_add]
          have hjl : j < acc.length := (List.getElem?_eq_some_iff.1 hx).1
          rw [hO.out.cellAt j (by omega)]
          simp [hx]) hge (by omega) hcv HJ.out)
        go_wp2_with fail
        refine JC.out.mono ?_
        rintro e w' ⟨rfl, k2⟩
        go_wp2_with fail
        go_ret
        exact ⟨by rw [JT.out]; exact rfl, next0 hB.out k2⟩
end LexI
end Go.Proofs.YtckddlglldfniaaDoor
