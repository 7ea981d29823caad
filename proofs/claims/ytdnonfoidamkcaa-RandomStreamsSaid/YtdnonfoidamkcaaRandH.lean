/- Pick of the code. -/
import Derived.Test.YtdnonfoidamkcaaRandG
namespace Go.Proofs.Ytdnonfoidamkcaa
open Go Go.RowKit
namespace RandH
open Kit RandM RandA RandB RandC RandD RandG
/-- What Pick answers: the state and the index. -/
def pickF (s : Int) (l : List Int) : Int × Int := if 4096 < l.length then (s, -1) else if sumW l = 0 then (s, -1) else (stp s, at_ l (mix s % sumW l) 0)
theorem pick_nil (s : Int) : pickF s [] = (s, -1) := by simp [pickF, sumW]
def pk (p : Int × Int) : Value := .tuple #[.agg #[.int .u64 p.1], .int .i64 p.2]
theorem Ws.but {w w' : World} {b off g : Nat} {l : List Int} (h : Ws w b off l) (hb : But g w w') (hg : b ≠ g) : Ws w' b off l :=
  ⟨Nat.lt_of_lt_of_le h.1 hb.size, fun i x hi => (World.cell?_of_block (w := w) (a := ⟨b, off + i, none⟩) (hb.block b h.1 hg)).trans (h.2 i x hi)⟩
theorem begins (w : World) (s z : Int) : Below w.heap.size w ((w.alloc (.cells #[.int .u64 s] 24)).alloc (.cells #[.int .u64 z] 24)) := (below_alloc w _).alloc (by simp) _
set_option maxRecDepth 100000 in
set_option maxHeartbeats 1600000 in
theorem pick_long (s : Int) (a : Option Addr) (m cap : Nat) (w : World) (hm : 4096 < m) :
    Calls Try.prog 23 #[.agg #[.int .u64 s], .slice a m cap] w fun e w' => e = .returned (pk (s, -1)) ∧ Below w.heap.size w w' := by
  go_enter Try.func23, Try.ntmps23
  go_wp2_with fail
  exact bodyPost_ret (v := pk (s, -1)) (by simp [pk, results, Try.results23, go_sem]) rfl ⟨rfl, begins w s s⟩
set_option maxRecDepth 100000 in
set_option maxHeartbeats 1600000 in
theorem pick_none (s : Int) (a : Option Addr) (cap : Nat) (w : World) :
    Calls Try.prog 23 #[.agg #[.int .u64 s], .slice a 0 cap] w fun e w' => e = .returned (pk (s, -1)) ∧ Below w.heap.size w w' := by
  go_enter Try.func23, Try.ntmps23
  go_wp2_with fail
  go_loop [6, 17] (fun t i => t = .int .i64 0 ∧ i = .int .i64 0) (fun _ _ => 0)
  case atStart => exact ⟨rfl, rfl⟩
  case round =>
    obtain ⟨rfl, rfl⟩ := hrel
    go_wp2_with fail
    exact bodyPost_ret (v := pk (s, -1)) (by simp [pk, results, Try.results23, go_sem]) rfl ⟨rfl, begins w s s⟩
set_option maxRecDepth 100000 in
set_option maxHeartbeats 3200000 in
theorem pick_some (b off m cap : Nat) (l : List Int) (s : Int) (w : World) (hw : Ws w b off l) (hl : l.length = m) (hm : m ≤ 4096) :
    Calls Try.prog 23 #[.agg #[.int .u64 s], .slice (some ⟨b, off, none⟩) m cap] w fun e w' => e = .returned (pk (pickF s l)) ∧ Below w.heap.size w w' := by
  have HL := Lib.hid hl
  have S0 := begins w s 0
  have HW := Lib.hid (hw.below S0 hw.1)
  have hbl := hw.1
  have hsum := sumW_in l
  rw [hl] at hsum
  have HP : Hid (pickF s l = if sumW l = 0 then (s, -1) else (stp s, at_ l (mix s % sumW l) 0)) := by
    unfold pickF; rw [if_neg (by omega)]; exact rfl
  have HT : Hid (sumW (l.take m) = sumW l) := by rw [List.take_of_length_le (by omega)]; exact rfl
  have IX := Lib.hid (fun k w h h0 h1 => index_any b off m cap l k w h hl hm h0 h1)
  generalize pickF s l = R at *
  clear hl hw S0
  go_enter Try.func23, Try.ntmps23
  go_wp2_with fail
  go_loop [6, 17] (fun t i => ∃ j : Nat, j ≤ m ∧ i = .int .i64 j ∧ t = .int .i64 (sumW (l.take j))) (fun _ i => m - (intOf i).toNat)
  case atStart => exact ⟨0, Nat.zero_le _, rfl, rfl⟩
  case round =>
    obtain ⟨j, hj, rfl, rfl⟩ := hrel
    by_cases hlt : j < m
    · obtain ⟨x, hx⟩ : ∃ x, l[j]? = some x := ⟨l[j]'(by rw [HL.out]; exact hlt), by simp⟩
      have c := HW.out.2 j x hx
      have HS := Lib.hid (sumW_take l j x hx)
      have hb1 := sumW_in (l.take j)
      have hb2 : (l.take j).length ≤ j := List.length_take_le _ _
      have hwt := wt_in x
      have LM := Lib.hid (fun w => limited_any x w)
      clear hx
      generalize sumW (l.take j) = u at *
      generalize wt x = y at *
      go_wp2_with fail
      refine (LM.out _).mono ?_
      rintro e w' ⟨rfl, rfl⟩
      go_wp2_with fail
      go_round
      case rel => exact ⟨j + 1, by omega, by go_num, by rw [HS.out]⟩
      case measure => simp [intOf] <;> omega
    · obtain rfl : j = m := by omega
      rw [HT.out]
      clear HT
      by_cases hz : sumW l = 0
      · have h := HP.out
        rw [if_pos hz] at h
        have HF := Lib.hid h
        rw [hz]
        clear hz HP IX hsum h
        go_wp2_with fail
        exact bodyPost_ret (v := pk (s, -1)) (by simp [pk, results, Try.results23, go_sem]) rfl ⟨by rw [HF.out], begins w s s⟩
      · have h := HP.out
        rw [if_neg hz] at h
        have h1 : 1 ≤ sumW l := by omega
        have hmod := mod_in s (sumW l) h1
        obtain ⟨q, hq⟩ := Int.eq_ofNat_of_zero_le hmod.1
        have hz' : (sumW l == 0) = false := by simpa using hz
        have DR : Hid (∀ (P G : Nat) (W : World), Has W P #[.pointer (some ⟨G, 0, none⟩)] → Has W G #[.int .u64 s] → Calls Try.prog 29 #[.int .i64 (sumW l), .pointer (some ⟨P, 0, none⟩)] W fun e w' => e = .returned (.int .i64 q) ∧ Has w' G #[.int .u64 (stp s)] ∧ But G W w') :=
          Lib.hid (fun P G W a1 a2 => draw_any P G s (sumW l) q W a1 a2 h1 (by omega) hq)
        rw [hq] at hmod h
        have HF := Lib.hid h
        have IQ := Lib.hid (fun w hw => IX.out (q : Int) w hw (by omega) (by omega))
        have hq1 : (q : Int) ≤ 281474976710656 := by omega
        clear hq hz HP IX h
        generalize at_ l (q : Int) 0 = z at *
        generalize sumW l = u at *
        have A0 := Has.new2 w (.cells #[.int .u64 s] 24) (.cells #[.int .u64 0] 24) 49 #[.pointer (some ⟨w.heap.size, 0, none⟩)]
        have A1 := ((Has.new w 24 #[.int .u64 s]).alloc (.cells #[.int .u64 0] 24)).alloc (.cells #[.pointer (some ⟨w.heap.size, 0, none⟩)] 49)
        have A2 := (Has.new1 w (.cells #[.int .u64 s] 24) 24 #[.int .u64 0]).alloc (.cells #[.pointer (some ⟨w.heap.size, 0, none⟩)] 49)
        have B3 := (begins w s 0).alloc (by simp <;> omega) (.cells #[.pointer (some ⟨w.heap.size, 0, none⟩)] 49)
        have W3 := HW.out.below (below_alloc _ (.cells #[.pointer (some ⟨w.heap.size, 0, none⟩)] 49)) HW.out.1
        go_wp2_with fail
        refine (drawer_any _ _).mono ?_
        rintro e w' ⟨rfl, rfl⟩
        go_wp2_with fail
        refine (DR.out _ _ _ A0 A1).mono ?_
        rintro e w1 ⟨rfl, g0, bt⟩
        have g1 := bt.has A2 (by omega)
        have gw := Ws.but W3 bt (by omega)
        have gb := Lib.hid (bt.below B3 (by omega) (by omega))
        have r0 := g0.cell 0
        have r1 := g1.cell 0
        have r2 := g1.free 0
        have r3 := g1.lt
        simp only [List.getElem?_toArray, List.getElem?_cons_zero] at r0 r1
        clear A0 A1 A2 B3 W3 bt g0 g1 DR
        generalize stp s = s' at *
        go_wp2_with fail
        refine (IQ.out _ gw).mono ?_
        rintro e w' ⟨rfl, rfl⟩
        go_wp2_with fail
        exact bodyPost_ret (v := pk (s', z)) (by simp [pk, results, Try.results23, go_sem, r1]) rfl ⟨by rw [HF.out], gb.out.setCell (by simp <;> omega) _⟩
end RandH
end Go.Proofs.Ytdnonfoidamkcaa
