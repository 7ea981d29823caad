/- eachRenaming of the code, as in NorK, for names of at most a hundred bytes; the names of normal forms. Conditions: at most a hundred variables, what order_any wants. -/
import Derived.Test.YtikkaiiinkeobaaGreatDoorGBE
import Derived.Test.YtikkaiiinkeobaaGreatDoorNosJ
import Derived.Test.YtikkaiiinkeobaaGreatDoorGAN
namespace Go.Proofs.YtikkaiiinkeobaaGreatDoor
open Go Go.RowKit
namespace NosK
open Kit LexM TermM TermI TermN TermU UniK UniM UnpP NorM NorP NorJ NorK
theorem nm_size {k : Nat} (hk : k < 100) : (nmV k).size ≤ 100 := by
  have := UnrE.digs_len (k + 1) (by omega)
  have e : (nmV k).size = 1 + (Lib.decDigits (k + 1)).length := by
    unfold nmV
    rw [ByteArray.size_append]
    show 1 + Array.size _ = _
    simp
  omega
theorem names_size {n : Nat} (hn : n < 100) : ∀ x ∈ namesV n, x.size ≤ 100 := fun x hx => by
  obtain ⟨k, hk, rfl⟩ := List.mem_map.1 hx
  exact nm_size (by have := List.mem_range.1 hk; omega)
theorem nm_eq {k : Nat} (hk : k < 9) : nmV k = NorQ.nmV k := by
  have : ∀ k, k < 9 → (nmV k).data.toList = (NorQ.nmV k).data.toList := by decide +kernel
  exact bytes_inj (this k hk)
/-- The renamings as lists of terms. -/
def tms (ns : List ByteArray) : List Tm := ns.map fun b => .mk b []
theorem tms_names {n : Nat} (hn : n ≤ 9) : tms (namesV n) = NorQ.vTs n := by
  unfold tms namesV NorQ.vTs
  rw [List.map_map]
  exact List.map_congr_left fun k hk => by
    have := List.mem_range.1 hk
    show Tm.mk (nmV k) [] = _
    rw [nm_eq (by omega)]
theorem vis_tms {n : Nat} (hn : n ≤ 9) (u : List Tm) : u ∈ (vis n (namesV n) 0).map tms ↔ u.Perm (NorQ.vTs n) := by
  have hl : (namesV n).length = n := by simp [namesV]
  rw [← tms_names hn, List.mem_map]
  constructor
  · rintro ⟨ns, h, rfl⟩
    exact (vis_sub n (namesV n) 0 (by omega) ns h).1.map _
  · intro h
    have h1 : ∀ t ∈ u, t = .mk t.nm [] := fun t ht => by
      obtain ⟨b, _, rfl⟩ := List.mem_map.1 (h.mem_iff.1 ht)
      rfl
    refine ⟨u.map Tm.nm, vis_all n (namesV n) 0 (by omega) _ ?_ (by simp), ?_⟩
    · have := h.map Tm.nm
      unfold tms at this
      rw [List.map_map] at this
      exact this.trans (by rw [show (Tm.nm ∘ fun b => Tm.mk b []) = id from rfl, List.map_id])
    · unfold tms
      rw [List.map_map]
      exact (List.map_congr_left fun t ht => (h1 t ht).symm).trans (List.map_id _)
set_option maxRecDepth 100000 in
set_option maxHeartbeats 6400000 in
theorem renaming_any (vs : List ByteArray) (n : Nat) (w : World) (p : Option Addr) (c : Nat) (c0 c1 c2 : Value) (hn : n < 100) (hvs : vs.length = n)
    (hrow : ∀ i v, vs[i]? = some v → ∃ b o, p = some ⟨b, o, none⟩ ∧ b < w.heap.size ∧ w.cell? ⟨b, o + i, none⟩ = some (.string v)) (P : List (List ByteArray) → World → Prop)
    (HP : ∀ pre w1 w', P pre w1 → Ch w.heap.size w1 w' → P pre w')
    (HV : ∀ pre ns w', ns.length = n → (∀ x ∈ ns, x.size ≤ 100) → P pre w' → Rw w' w.heap.size vs ns → Calls Tryz.prog 35 #[.slice (some ⟨w.heap.size, 0, none⟩) n n, c0, c1, c2] w' fun e w'' => e = .returned (.tuple #[]) ∧ P (pre ++ [ns]) w'' ∧ Rw w'' w.heap.size vs ns)
    (h0 : ∀ w', Below w.heap.size w w' → P [] w') :
    Calls Tryz.prog 34 #[.slice p n c, .func (.func 35) #[] #[c0, c1, c2]] w fun e w' => e = .returned (.tuple #[]) ∧ P (vis n (namesV n) 0) w' ∧ Rw w' w.heap.size vs (namesV n) := by
  obtain ⟨wm, M, O, G⟩ := make_row w n (by omega)
  have hnl : (namesV n).length = n := by simp [namesV]
  have OR := Lib.hid (fun w' (hw : Below w.heap.size w w') (hr : Rw w' w.heap.size vs (namesV n)) => NosJ.order_any vs n w.heap.size c0 c1 c2 (by omega) hvs P HP HV n 0 (namesV n) [] w' (by omega) hnl (names_size hn) (h0 w' hw) hr)
  have B0 : Hid (Below w.heap.size w wm) := Lib.hid ((Below.refl w.heap.size w).grown G (Nat.le_refl _) (fun k h => by cases h))
  have O0 : Hid (Rw wm w.heap.size (pad vs n 0) (pad (namesV n) n 0)) := Lib.hid (by simpa [pad] using O)
  have HROW := Lib.hid hrow
  have HNL := Lib.hid hnl
  have HVS := Lib.hid hvs
  have NG := Lib.hid (fun k (hk : k < n) => show (namesV n)[k]? = some (nmV k) by simp [namesV, hk])
  clear HP HV h0 hrow hnl hvs O G
  obtain ⟨g, hg⟩ : ∃ g, g = w.heap.size := ⟨_, rfl⟩
  go_enter Tryz.func34, Tryz.ntmps34
  go_wp2_with fail
  go_loopw [12] (fun i wr => ∃ k : Nat, k ≤ n ∧ i = .int .i64 k ∧ Hid (Rw wr w.heap.size (pad vs n k) (pad (namesV n) n k)) ∧ Hid (Below w.heap.size w wr)) (fun i _ => n - (intOf i).toNat)
  case atStart => exact ⟨0, Nat.zero_le _, rfl, O0, B0⟩
  case round =>
    clear O0 B0
    obtain ⟨k, hk, rfl, hO, hD⟩ := hrel
    have hvs := HVS.out
    have hnl := HNL.out
    by_cases hlt : k < n
    · obtain ⟨v, hv⟩ : ∃ v, vs[k]? = some v := ⟨vs[k], by simp [hvs, hlt]⟩
      obtain ⟨b, o, rfl, hb, hc⟩ := HROW.out k v hv
      have hc2 : wr.cell? ⟨b, o + k, none⟩ = some (.string v) := (hD.out.cell (p := ⟨b, o + k, none⟩) hb).trans hc
      have hb2 : b < wr.heap.size := Nat.lt_of_lt_of_le hb hD.out.size
      have hp1 := pad_len hvs hk
      have hp2 := pad_len hnl hk
      obtain ⟨u1, u2, u3, y1, y2, y3, y4, y5, y6, y7⟩ := Rw.fact3 hO.out (by omega) (k := k) (by omega)
      have R6 := Rw.put3 hO.out (by omega) (i := k) (by omega) v (nmV k)
      rw [pad_set hvs hv, pad_set hnl (NG.out k hlt)] at R6
      have R7 := Lib.hid R6
      have D7 := Lib.hid (((hD.out.setCell (p := ⟨w.heap.size, k * 3, none⟩) (Nat.le_refl _) (.string v)).setCell (p := ⟨w.heap.size, k * 3 + 1, none⟩) (Nat.le_refl _) (.string (nmV k))).setCell (p := ⟨w.heap.size, k * 3 + 2, none⟩) (Nat.le_refl _) (.slice none 0 0))
      have IT := Lib.hid (fun w' => show Calls Tryz.prog 69 #[.int .i64 ((k : Int) + 1)] w' (fun e w'' => e = .returned (.string ⟨(Lib.decDigits (k + 1)).toArray⟩) ∧ w'' = w') from Tryz.strconv_Itoa_small (k + 1) (by omega) w')
      have hds : (⟨(Lib.decDigits (k + 1)).toArray⟩ : ByteArray).size ≤ 21 := by
        have := UnrE.digs_len (k + 1) (by omega)
        show Array.size _ ≤ 21
        simpa using this
      have AD := Lib.hid (fun w' => run_string_add_sum (P := Tryz.prog) w' ⟨#[86]⟩ ⟨(Lib.decDigits (k + 1)).toArray⟩ (by show 1 + _ ≤ _; omega))
      have hS : ⟨#[86]⟩ ++ ⟨(Lib.decDigits (k + 1)).toArray⟩ = nmV k := rfl
      rw [hS] at AD
      have ad := AD.out
      clear R6 hv hc hds hS hp1 hp2
      generalize (⟨(Lib.decDigits (k + 1)).toArray⟩ : ByteArray) = D at *
      generalize nmV k = S at *
      go_wp2_with (go_at_call 69; refine (IT.out _).mono ?_; rintro e w5 ⟨rfl, rfl⟩)
      go_roundw
      case rel => exact ⟨k + 1, by omega, by go_num, R7, D7⟩
      case measure => simp [intOf]; omega
    · obtain rfl : k = n := by omega
      have hO2 := hO.out
      rw [pad_end hvs, pad_end hnl] at hO2
      have K := Lib.hid (OR.out wr hD.out hO2)
      go_wp2_with fail
      refine K.out.mono ?_
      rintro e w6 ⟨rfl, h1, h2⟩
      have H1 := Lib.hid h1
      have H2 := Lib.hid h2
      clear h1 h2
      go_wp2_with fail
      exact bodyPost_end (v := .tuple #[]) (by simp [results, Tryz.results34, go_sem]) rfl ⟨rfl, by simpa using H1.out, H2.out⟩
end NosK
end Go.Proofs.YtikkaiiinkeobaaGreatDoor
