/- delta's Set: new facts and moves, and what changes. Conditions: the engine lies in memory; a valid network. Made by gnDs.py. -/
import Derived.Test.YtgbbpliihglijaaGreatNetDu
import Derived.Test.YtgbbpliihglijaaGreatGBD
import Derived.Test.YtgbbpliihglijaaGreatNetVv
namespace Go.Proofs.YtgbbpliihglijaaGreat
open Go Go.RowKit
namespace NetDs
open Kit TermM TermI NetM NetN NetK NetA NetC NetI NetMk NetNu NetOk NetEv NetBo NetMb NetVv NetDn NetDg NetDc NetTn NetDp NetEm NetLt NetDx NetDw NetDu
section
variable {n : Nt} {ge gb gv cb cv : Nat} {R : List Value} {A F M F' M' : List Bool} {vf vm ua ub : Value} {wk : Int} {w wb : World}
theorem EngU.below (h : EngU n ge gb gv cb cv R A F M vf vm wk w) (q : Below w.heap.size w wb) : EngU n ge gb gv cb cv R A F M vf vm wk wb := by
  have l1 := h.lte
  have l2 := h.ltb
  have l3 := h.ltv
  have c : ∀ b o : Nat, b < w.heap.size → wb.cell? ⟨b, o, none⟩ = w.cell? ⟨b, o, none⟩ ∧ wb.frozen? ⟨b, o, none⟩ = w.frozen? ⟨b, o, none⟩ := fun b o hb => ⟨q.cell (p := ⟨b, o, none⟩) hb, q.frozen (p := ⟨b, o, none⟩) hb⟩
  have hs := q.size
  have wd : ∀ b, okE ge gb gv w b → okE ge gb gv wb b := fun b hb => ⟨by have := hb.1; omega, hb.2⟩
  exact ⟨h.eng.keep fun b o hb => c b o (by rcases hb with rfl | rfl | rfl <;> assumption), (c ge 3 l1).1.trans h.f3, (c ge 4 l1).1.trans h.f4, (c ge 5 l1).1.trans h.f5, fun q => (c ge q l1).2.trans (h.free q), by omega, by omega, by omega,
    (h.rf.keep fun b o hb => (c b o hb.1).1).wide wd, (h.rm.keep fun b o hb => (c b o hb.1).1).wide wd, fun j v hv => ((h.rr j v hv).keep fun b o hb => (c b o hb.1).1).wide wd⟩
theorem EngU.facts {q : Nat} {u : Value} (h : EngU n ge gb gv cb cv R A F M vf vm wk w) (hq : q = 3) (ra : RowE KB (okE ge gb gv w) w F' u) : EngU n ge gb gv cb cv R A F' M u vm wk (w.setCell ⟨ge, q, none⟩ u) := by
  subst hq
  have oth : ∀ b o : Nat, b ≠ ge ∨ o ≠ 3 → (w.setCell ⟨ge, 3, none⟩ u).cell? ⟨b, o, none⟩ = w.cell? ⟨b, o, none⟩ := fun b o hb => World.cell?_setCell_other _ _ _ _ (by intro e; injection e with e1 e2; omega)
  have hs : (w.setCell ⟨ge, 3, none⟩ u).heap.size = w.heap.size := by simp [World.setCell]
  have wd : ∀ b, okE ge gb gv w b → okE ge gb gv (w.setCell ⟨ge, 3, none⟩ u) b := fun b hb => ⟨by rw [hs]; exact hb.1, hb.2⟩
  exact ⟨EngM.put5 h.eng (by omega) _, World.cell?_setCell_same _ _ _ h.f3, (oth _ _ (Or.inr (by omega))).trans h.f4, (oth _ _ (Or.inr (by omega))).trans h.f5, fun q => by rw [World.frozen?_setCell]; exact h.free q, by rw [hs]; exact h.lte, by rw [hs]; exact h.ltb, by rw [hs]; exact h.ltv,
    (ra.keep fun b o hb => oth b o (Or.inl hb.2.1)).wide wd, (h.rm.keep fun b o hb => oth b o (Or.inl hb.2.1)).wide wd, fun j v hv => ((h.rr j v hv).keep fun b o hb => oth b o (Or.inl hb.2.1)).wide wd⟩
theorem EngU.moves {q : Nat} {u : Value} (h : EngU n ge gb gv cb cv R A F M vf vm wk w) (hq : q = 4) (ra : RowE KB (okE ge gb gv w) w M' u) : EngU n ge gb gv cb cv R A F M' vf u wk (w.setCell ⟨ge, q, none⟩ u) := by
  subst hq
  have oth : ∀ b o : Nat, b ≠ ge ∨ o ≠ 4 → (w.setCell ⟨ge, 4, none⟩ u).cell? ⟨b, o, none⟩ = w.cell? ⟨b, o, none⟩ := fun b o hb => World.cell?_setCell_other _ _ _ _ (by intro e; injection e with e1 e2; omega)
  have hs : (w.setCell ⟨ge, 4, none⟩ u).heap.size = w.heap.size := by simp [World.setCell]
  have wd : ∀ b, okE ge gb gv w b → okE ge gb gv (w.setCell ⟨ge, 4, none⟩ u) b := fun b hb => ⟨by rw [hs]; exact hb.1, hb.2⟩
  exact ⟨EngM.put5 h.eng (by omega) _, (oth _ _ (Or.inr (by omega))).trans h.f3, World.cell?_setCell_same _ _ _ h.f4, (oth _ _ (Or.inr (by omega))).trans h.f5, fun q => by rw [World.frozen?_setCell]; exact h.free q, by rw [hs]; exact h.lte, by rw [hs]; exact h.ltb, by rw [hs]; exact h.ltv,
    (h.rf.keep fun b o hb => oth b o (Or.inl hb.2.1)).wide wd, (ra.keep fun b o hb => oth b o (Or.inl hb.2.1)).wide wd, fun j v hv => ((h.rr j v hv).keep fun b o hb => oth b o (Or.inl hb.2.1)).wide wd⟩
/-- New rows in the engine's cells. -/
structure Pre (n : Nt) (ge gb gv cb cv : Nat) (R : List Value) (A F M : List Bool) (wk : Int) (w wx : World) : Prop where
  ex : ∃ vf vm, EngU n ge gb gv cb cv R A F M vf vm wk wx
  lt : Lt (ex3 ge gb gv) w wx
theorem Pre.below {wx : World} (h : Pre n ge gb gv cb cv R A F M wk w wx) {wy : World} (q : Below wx.heap.size wx wy) : Pre n ge gb gv cb cv R A F M wk w wy := by
  obtain ⟨vf, vm, h1⟩ := h.ex
  exact ⟨⟨vf, vm, EngU.below h1 q⟩, h.lt.below q⟩
theorem pre_mk (h : EngU n ge gb gv cb cv R A F M vf vm wk w) (q : Below w.heap.size w wb) (ra : StR F' w.heap.size wb ua) (rb : StR M' w.heap.size wb ub) : Pre n ge gb gv cb cv R A F' M' wk w ((wb.setCell ⟨ge, 3, none⟩ ua).setCell ⟨ge, 4, none⟩ ub) := by
  have h1 := EngU.below h q
  have l1 := h.lte
  have l2 := h.ltb
  have l3 := h.ltv
  have wa : ∀ b, w.heap.size ≤ b ∧ b < wb.heap.size → okE ge gb gv wb b := fun b hb => ⟨hb.2, by omega, by omega, by omega⟩
  have h2 := EngU.facts h1 rfl ((ra wb (Below.refl _ _)).wide wa)
  have hs : (wb.setCell ⟨ge, 3, none⟩ ua).heap.size = wb.heap.size := by simp [World.setCell]
  have oth : ∀ b o : Nat, b ≠ ge → (wb.setCell ⟨ge, 3, none⟩ ua).cell? ⟨b, o, none⟩ = wb.cell? ⟨b, o, none⟩ := fun b o hb => World.cell?_setCell_other _ _ _ _ (by intro e; injection e with e1 e2; omega)
  have rb2 : RowE KB (okE ge gb gv (wb.setCell ⟨ge, 3, none⟩ ua)) (wb.setCell ⟨ge, 3, none⟩ ua) M' ub := ((rb wb (Below.refl _ _)).keep fun b o hb => oth b o (by omega)).wide fun b hb => ⟨by rw [hs]; exact hb.2, by omega, by omega, by omega⟩
  exact ⟨⟨ua, ub, EngU.moves h2 rfl rb2⟩, ((Lt.of q).put (p := ⟨ge, 3, none⟩) (Or.inl (Or.inl rfl)) ua).put (p := ⟨ge, 4, none⟩) (Or.inl (Or.inl rfl)) ub⟩
end
/-- What Set leaves. -/
structure SetQ (n : Nt) (ge gb gv cb cv : Nat) (R : List Value) (st ip : List Int) (wk : Int) (w w' : World) : Prop where
  ex : ∃ vf vm, EngU n ge gb gv cb cv R (valsN st ip n) (memB st n.bases.length) (memB ip n.inputs.length) vf vm wk w'
  lt : Lt (ex3 ge gb gv) w w'
set_option maxRecDepth 100000 in
set_option maxHeartbeats 12800000 in
theorem set_any {fch : Tm → Bool} (n : Nt) (st0 ip0 st ip : List Int) (F0 M0 : List Bool) (w : World) (ge gb gv cb cv : Nat) (R : List Value) (vf vm vs vi : Value) (wk : Int) (B : Nat)
    (hck : chkN fch n = 0) (hnb : n.bases.length ≤ 1000000) (hni : n.inputs.length ≤ 1000000) (hF : F0.length = n.bases.length) (hM : M0.length = n.inputs.length) (hB : B ≤ w.heap.size) (hs : RowE KN (· < B) w st vs) (hi : RowE KN (· < B) w ip vi)
    (b1 : numsB st n.bases.length = true ∧ numsB ip n.inputs.length = true)
    (EU : EngU n ge gb gv cb cv R (valsN st0 ip0 n) F0 M0 vf vm wk w) :
    Calls Tryz.prog 9 #[.pointer (some ⟨ge, 0, none⟩), vs, vi] w fun e w' => e = .returned (.tuple #[.int .i64 (chN (valsN st0 ip0 n) (valsN st ip n) n.gates.length : Nat), .int .i64 0]) ∧ SetQ n ge gb gv cb cv R st ip (wkN (valsN st0 ip0 n) (valsN st ip n) n n.gates.length : Nat) w w' := by
  have NS := Lib.hid (nums_mem b1.1)
  have NI := Lib.hid (nums_mem b1.2)
  obtain ⟨psl, csl, rfl⟩ := hs.form
  obtain ⟨pil, cil, rfl⟩ := hi.form
  obtain ⟨pf, cf, rfl⟩ := EU.rf.form
  obtain ⟨pm, cm, rfl⟩ := EU.rm.form
  have RS := Lib.hid (fun w' (q : Below w.heap.size w w') => hs.keep (w' := w') fun b o (hb : b < B) => q.cell (p := ⟨b, o, none⟩) (Nat.lt_of_lt_of_le hb hB))
  have RI := Lib.hid (fun w' (q : Below w.heap.size w w') => hi.keep (w' := w') fun b o (hb : b < B) => q.cell (p := ⟨b, o, none⟩) (Nat.lt_of_lt_of_le hb hB))
  have VS := Lib.hid (fun w' (q : Below w.heap.size w w') => by
    have h := ascb_any st n.bases.length B w' _ (Nat.le_trans hB q.size) (RS.out w' q)
    rw [b1.1] at h
    exact h)
  have VI := Lib.hid (fun w' (q : Below w.heap.size w w') => by
    have h := ascb_any ip n.inputs.length B w' _ (Nat.le_trans hB q.size) (RI.out w' q)
    rw [b1.2] at h
    exact h)
  have UPD := Lib.hid (fun w' vf vm E => update_any n st0 ip0 st ip w' ge gb gv cb cv R vf vm wk hck (fun x hx => (NS.out x hx).1) (fun x hx => (NI.out x hx).1) E)
  have HEU := Lib.hid EU
  have RT := Lib.hid (fun w' (q : Below w.heap.size w w') => returned_live ge w' ((EngU.below EU q).eng.self))
  rw [hF, hM] at HEU
  rw [hF, hM] at EU
  have D0 : Hid (Below w.heap.size w w) := Lib.hid (Below.refl _ _)
  have CE := Lib.hid (fun w' (q : Below w.heap.size w w') => show w'.cell? ⟨ge, 3, none⟩ = some (.slice pf n.bases.length cf) ∧ w'.cell? ⟨ge, 4, none⟩ = some (.slice pm n.inputs.length cm) from ⟨(EngU.below HEU.out q).f3, (EngU.below HEU.out q).f4⟩)
  have M1 := Lib.hid (fun w' (q : Below w.heap.size w w') => members_st st n.bases.length B w w' _ q hB hs hnb NS.out)
  have M2 := Lib.hid (fun w' (q : Below w.heap.size w w') => members_st ip n.inputs.length B w w' _ q hB hi hni NI.out)
  clear hs hi RS RI EU hck
  go_enter Tryz.func9, Tryz.ntmps9
  go_wp2_with fail
  refine (RT.out w D0.out).mono ?_
  rintro e w2 ⟨rfl, rfl⟩
  obtain ⟨x3, x4⟩ := CE.out w D0.out
  go_wp2_with fail
  refine (VS.out w D0.out).mono ?_
  rintro e w3 ⟨rfl, g3⟩
  have D3 : Hid (Below w.heap.size w w3) := Lib.hid g3
  clear x3 x4 g3
  obtain ⟨x3, x4⟩ := CE.out w3 D3.out
  go_wp2_with fail
  refine (VI.out w3 D3.out).mono ?_
  rintro e w4 ⟨rfl, g4⟩
  have D4 : Hid (Below w.heap.size w w4) := Lib.hid (next0 D3.out g4)
  clear x3 x4 g4 VS VI RT
  obtain ⟨x3, x4⟩ := CE.out w4 D4.out
  go_upto_region 7 with fail
  go_cut [49] (fun _ wx => Hid (Pre n ge gb gv cb cv R (valsN st0 ip0 n) (memB st n.bases.length) (memB ip n.inputs.length) wk w wx))
  case first =>
    refine wp_region_held_drew (S := (fun _ => True)) (by kernel_rfl) trivial (fun hHeld => ?_)
    have DD : Hid (Below w.heap.size w w4.drew) := Lib.hid D4.out.drew
    generalize hw0 : w4.drew = wd at hHeld DD ⊢
    clear hw0 x3 x4
    refine wpAnyH_take (i := 0) (v := ?_) rfl (by kernel_rfl) (by kernel_rfl) (by kernel_rfl) (fun _ _ _ h => h) (Or.inl ⟨by rfl, ?_⟩) (by assumption) ?_
    rotate_left
    · intro w' hSw; (try dsimp only at hSw); (try simp only [List.getElem_toArray, List.getElem_cons_zero]); go_simp; try with_reducible rfl
    (try simp only [List.getElem_toArray, List.getElem_cons_zero, Act.put, List.setIfInBounds_toArray, List.set_cons_zero, List.set_cons_succ])
    refine wpAnyH_take (i := 1) (v := ?_) rfl (by kernel_rfl) (by kernel_rfl) (by kernel_rfl) (fun _ _ _ h => h) (Or.inl ⟨by rfl, ?_⟩) (by assumption) ?_
    rotate_left
    · intro w' hSw; (try dsimp only at hSw); (try simp only [List.getElem_toArray, List.getElem_cons_zero, List.getElem_cons_succ]); go_simp; try with_reducible rfl
    (try simp only [List.getElem_toArray, List.getElem_cons_zero, List.getElem_cons_succ, Act.put, List.setIfInBounds_toArray, List.set_cons_zero, List.set_cons_succ])
    refine wpAnyH_take (i := 2) (v := ?_) rfl (by kernel_rfl) (by kernel_rfl) (by kernel_rfl) (fun _ _ _ h => h) (Or.inl ⟨by rfl, ?_⟩) (by assumption) ?_
    rotate_left
    · intro w' hSw; (try dsimp only at hSw); (try simp only [List.getElem_toArray, List.getElem_cons_zero, List.getElem_cons_succ]); go_simp; try with_reducible rfl
    (try simp only [List.getElem_toArray, List.getElem_cons_zero, List.getElem_cons_succ, Act.put, List.setIfInBounds_toArray, List.set_cons_zero, List.set_cons_succ])
    refine wpAnyH_take (i := 3) (v := ?_) rfl (by kernel_rfl) (by kernel_rfl) (by kernel_rfl) (fun _ _ _ h => h) (Or.inl ⟨by rfl, ?_⟩) (by assumption) ?_
    rotate_left
    · intro w' hSw; (try dsimp only at hSw); (try simp only [List.getElem_toArray, List.getElem_cons_zero, List.getElem_cons_succ]); go_simp; try with_reducible rfl
    (try simp only [List.getElem_toArray, List.getElem_cons_zero, List.getElem_cons_succ, Act.put, List.setIfInBounds_toArray, List.set_cons_zero, List.set_cons_succ])
    refine wpAnyH_take (i := 4) (v := ?_) rfl (by kernel_rfl) (by kernel_rfl) (by kernel_rfl) (fun _ _ _ h => h) (Or.inl ⟨by rfl, ?_⟩) (by assumption) ?_
    rotate_left
    · intro w' hSw; (try dsimp only at hSw); (try simp only [List.getElem_toArray, List.getElem_cons_zero, List.getElem_cons_succ]); go_simp; try with_reducible rfl
    (try simp only [List.getElem_toArray, List.getElem_cons_zero, List.getElem_cons_succ, Act.put, List.setIfInBounds_toArray, List.set_cons_zero, List.set_cons_succ])
    refine wpAnyH_take (i := 5) (v := ?_) rfl (by kernel_rfl) (by kernel_rfl) (by kernel_rfl) (fun _ _ _ h => h) (Or.inl ⟨by rfl, ?_⟩) (by assumption) ?_
    rotate_left
    · intro w' hSw; (try dsimp only at hSw); (try simp only [List.getElem_toArray, List.getElem_cons_zero, List.getElem_cons_succ]); go_simp; try with_reducible rfl
    (try simp only [List.getElem_toArray, List.getElem_cons_zero, List.getElem_cons_succ, Act.put, List.setIfInBounds_toArray, List.set_cons_zero, List.set_cons_succ])
    refine wpAnyH_take (i := 9) (v := ?_) rfl (by kernel_rfl) (by kernel_rfl) (by kernel_rfl) (fun _ _ _ h => h) (Or.inl ⟨by rfl, ?_⟩) (by assumption) ?_
    rotate_left
    · intro w' hSw; (try dsimp only at hSw); (try simp only [List.getElem_toArray, List.getElem_cons_zero, List.getElem_cons_succ]); go_simp; try with_reducible rfl
    (try simp only [List.getElem_toArray, List.getElem_cons_zero, List.getElem_cons_succ, Act.put, List.setIfInBounds_toArray, List.set_cons_zero, List.set_cons_succ])
    refine wpAnyH_take (i := 10) (v := ?_) rfl (by kernel_rfl) (by kernel_rfl) (by kernel_rfl) (fun _ _ _ h => h) (Or.inl ⟨by rfl, ?_⟩) (by assumption) ?_
    rotate_left
    · intro w' hSw; (try dsimp only at hSw); (try simp only [List.getElem_toArray, List.getElem_cons_zero, List.getElem_cons_succ]); go_simp; try with_reducible rfl
    (try simp only [List.getElem_toArray, List.getElem_cons_zero, List.getElem_cons_succ, Act.put, List.setIfInBounds_toArray, List.set_cons_zero, List.set_cons_succ])
    refine wpAnyH_take (i := 11) (v := ?_) rfl (by kernel_rfl) (by kernel_rfl) (by kernel_rfl) (fun _ _ _ h => h) (Or.inl ⟨by rfl, ?_⟩) (by assumption) ?_
    rotate_left
    · intro w' hSw; (try dsimp only at hSw); (try simp only [List.getElem_toArray, List.getElem_cons_zero, List.getElem_cons_succ]); go_simp; try with_reducible rfl
    (try simp only [List.getElem_toArray, List.getElem_cons_zero, List.getElem_cons_succ, Act.put, List.setIfInBounds_toArray, List.set_cons_zero, List.set_cons_succ])
    refine wpAnyH_take (i := 12) (v := ?_) rfl (by kernel_rfl) (by kernel_rfl) (by kernel_rfl) (fun _ _ _ h => h) (Or.inl ⟨by rfl, ?_⟩) (by assumption) ?_
    rotate_left
    · intro w' hSw; (try dsimp only at hSw); (try simp only [List.getElem_toArray, List.getElem_cons_zero, List.getElem_cons_succ]); go_simp; try with_reducible rfl
    (try simp only [List.getElem_toArray, List.getElem_cons_zero, List.getElem_cons_succ, Act.put, List.setIfInBounds_toArray, List.set_cons_zero, List.set_cons_succ])
    refine wpAnyH_ready (rs := [6, 13]) (by kernel_rfl) (by simp) ?_
    refine (AllReadyH.cons rfl (fun K' hK => ?q1) (AllReadyH.cons rfl (fun K' hK => ?q2) AllReadyH.nil))
    case' q1 =>
      obtain ⟨x3, x4⟩ := CE.out wd DD.out
      go_simp
      (try go_split_ands)
      clear x3 x4
      refine hK.out _ _ trivial (fun hHeld => ?_)
      clear hK K'
      (try simp only [List.getElem_toArray, List.getElem_cons_zero, List.getElem_cons_succ, Act.put, List.setIfInBounds_toArray, List.set_cons_zero, List.set_cons_succ])
      refine wpAnyH_take (i := 7) (v := ?_) rfl (by kernel_rfl) (by kernel_rfl) (by kernel_rfl) (fun _ _ _ h => h) (Or.inl ⟨by rfl, ?_⟩) (by assumption) ?_
      rotate_left
      · intro w' hSw; (try dsimp only at hSw); (try simp only [List.getElem_toArray, List.getElem_cons_zero, List.getElem_cons_succ]); go_simp; try with_reducible rfl
      (try simp only [List.getElem_toArray, List.getElem_cons_zero, List.getElem_cons_succ, Act.put, List.setIfInBounds_toArray, List.set_cons_zero, List.set_cons_succ])
      refine wpAnyH_ready (rs := [8, 13]) (by kernel_rfl) (by simp) ?_
      refine (AllReadyH.cons rfl (fun K' hK => ?q3) (AllReadyH.cons rfl (fun K' hK => ?q4) AllReadyH.nil))
      case' q3 =>
        go_simp
        (try go_split_ands)
        refine (M1.out wd DD.out).mono ?_
        rintro e wa ⟨u8, rfl, r8, g8⟩
        obtain ⟨p8, c8, rfl⟩ := (r8 _ (Below.refl _ _)).form
        have RA := Lib.hid r8
        have G8 := Lib.hid g8
        have Ewa : Hid (Below w.heap.size w wa) := Lib.hid (next0 DD.out g8)
        clear r8 g8
        refine hK.out _ _ trivial (fun hHeld => ?_)
        clear hK K'
        (try simp only [List.getElem_toArray, List.getElem_cons_zero, List.getElem_cons_succ, Act.put, List.setIfInBounds_toArray, List.set_cons_zero, List.set_cons_succ])
        refine wpAnyH_ready (rs := [13]) (by kernel_rfl) (by simp) ?_
        refine (AllReadyH.cons rfl (fun K' hK => ?_) AllReadyH.nil)
        obtain ⟨x3, x4⟩ := CE.out wa Ewa.out
        go_simp
        (try go_split_ands)
        clear x3 x4
        refine hK.out _ _ trivial (fun hHeld => ?_)
        clear hK K'
        (try simp only [List.getElem_toArray, List.getElem_cons_zero, List.getElem_cons_succ, Act.put, List.setIfInBounds_toArray, List.set_cons_zero, List.set_cons_succ])
        refine wpAnyH_take (i := 14) (v := ?_) rfl (by kernel_rfl) (by kernel_rfl) (by kernel_rfl) (fun _ _ _ h => h) (Or.inl ⟨by rfl, ?_⟩) (by assumption) ?_
        rotate_left
        · intro w' hSw; (try dsimp only at hSw); (try simp only [List.getElem_toArray, List.getElem_cons_zero, List.getElem_cons_succ]); go_simp; try with_reducible rfl
        (try simp only [List.getElem_toArray, List.getElem_cons_zero, List.getElem_cons_succ, Act.put, List.setIfInBounds_toArray, List.set_cons_zero, List.set_cons_succ])
        refine wpAnyH_ready (rs := [15]) (by kernel_rfl) (by simp) ?_
        refine (AllReadyH.cons rfl (fun K' hK => ?_) AllReadyH.nil)
        go_simp
        (try go_split_ands)
        refine (M2.out wa Ewa.out).mono ?_
        rintro e wb ⟨u15, rfl, r15, g15⟩
        obtain ⟨p15, c15, rfl⟩ := (r15 _ (Below.refl _ _)).form
        have RB := Lib.hid r15
        have G15 := Lib.hid g15
        have Ewb : Hid (Below w.heap.size w wb) := Lib.hid (next0 Ewa.out g15)
        clear r15 g15
        refine hK.out _ _ trivial (fun hHeld => ?_)
        clear hK K'
        (try simp only [List.getElem_toArray, List.getElem_cons_zero, List.getElem_cons_succ, Act.put, List.setIfInBounds_toArray, List.set_cons_zero, List.set_cons_succ])
        have R2 := Lib.hid (RA.out.step G15.out)
        have PP := Lib.hid (pre_mk HEU.out Ewb.out R2.out RB.out)
        have y1 := (EngU.below HEU.out Ewb.out).f3
        have y2 := (EngU.below HEU.out Ewb.out).f4
        have y3 := (EngU.below HEU.out Ewb.out).free 3
        have y4 := (EngU.below HEU.out Ewb.out).free 4
        refine wpAnyH_take (i := 16) (v := ?_) rfl (by kernel_rfl) (by kernel_rfl) (by kernel_rfl) (fun _ _ _ h => h) (Or.inl ⟨by rfl, ?_⟩) (by assumption) ?_
        rotate_left
        · intro w' hSw; (try dsimp only at hSw); (try simp only [List.getElem_toArray, List.getElem_cons_zero, List.getElem_cons_succ]); go_simp; try with_reducible rfl
        (try simp only [List.getElem_toArray, List.getElem_cons_zero, List.getElem_cons_succ, Act.put, List.setIfInBounds_toArray, List.set_cons_zero, List.set_cons_succ])
        refine wpAnyH_take (i := 17) (v := ?_) rfl (by kernel_rfl) (by kernel_rfl) (by kernel_rfl) (fun _ _ _ h => h) (Or.inl ⟨by rfl, ?_⟩) (by assumption) ?_
        rotate_left
        · intro w' hSw; (try dsimp only at hSw); (try simp only [List.getElem_toArray, List.getElem_cons_zero, List.getElem_cons_succ]); go_simp; try with_reducible rfl
        (try simp only [List.getElem_toArray, List.getElem_cons_zero, List.getElem_cons_succ, Act.put, List.setIfInBounds_toArray, List.set_cons_zero, List.set_cons_succ])
        refine wpAnyH_ready (rs := [18]) (by kernel_rfl) (by simp) ?_
        refine (AllReadyH.cons rfl (fun K' hK => ?_) AllReadyH.nil)
        go_simp
        (try go_split_ands)
        refine hK.out _ _ trivial (fun hHeld => ?_)
        clear hK K'
        (try simp only [List.getElem_toArray, List.getElem_cons_zero, List.getElem_cons_succ, Act.put, List.setIfInBounds_toArray, List.set_cons_zero, List.set_cons_succ])
        have z2 : (wb.setCell ⟨ge, 3, none⟩ (.slice p8 (memB st n.bases.length).length c8)).cell? ⟨ge, 4, none⟩ = some (.slice pm n.inputs.length cm) := (World.cell?_setCell_other _ _ _ _ (by intro e; injection e with e1 e2; omega)).trans y2
        have z4 : (wb.setCell ⟨ge, 3, none⟩ (.slice p8 (memB st n.bases.length).length c8)).frozen? ⟨ge, 4, none⟩ = false := by rw [World.frozen?_setCell]; exact y4
        refine wpAnyH_take (i := 19) (v := ?_) rfl (by kernel_rfl) (by kernel_rfl) (by kernel_rfl) (fun _ _ _ h => h) (Or.inl ⟨by rfl, ?_⟩) (by assumption) ?_
        rotate_left
        · intro w' hSw; (try dsimp only at hSw); (try simp only [List.getElem_toArray, List.getElem_cons_zero, List.getElem_cons_succ]); go_simp; try with_reducible rfl
        (try simp only [List.getElem_toArray, List.getElem_cons_zero, List.getElem_cons_succ, Act.put, List.setIfInBounds_toArray, List.set_cons_zero, List.set_cons_succ])
        refine wpAnyH_take (i := 20) (v := ?_) rfl (by kernel_rfl) (by kernel_rfl) (by kernel_rfl) (fun _ _ _ h => h) (Or.inl ⟨by rfl, ?_⟩) (by assumption) ?_
        rotate_left
        · intro w' hSw; (try dsimp only at hSw); (try simp only [List.getElem_toArray, List.getElem_cons_zero, List.getElem_cons_succ]); go_simp; try with_reducible rfl
        (try simp only [List.getElem_toArray, List.getElem_cons_zero, List.getElem_cons_succ, Act.put, List.setIfInBounds_toArray, List.set_cons_zero, List.set_cons_succ])
        refine wpAnyH_ready (rs := [21]) (by kernel_rfl) (by simp) ?_
        refine (AllReadyH.cons rfl (fun K' hK => ?_) AllReadyH.nil)
        go_simp
        (try go_split_ands)
        refine hK.out _ _ trivial (fun hHeld => ?_)
        clear hK K'
        (try simp only [List.getElem_toArray, List.getElem_cons_zero, List.getElem_cons_succ, Act.put, List.setIfInBounds_toArray, List.set_cons_zero, List.set_cons_succ])
        refine wpAnyH_done (by kernel_rfl) ?_ _
        go_wp2_with fail
        go_meet
        exact PP
      case' q4 =>
        obtain ⟨x3, x4⟩ := CE.out wd DD.out
        go_simp
        (try go_split_ands)
        clear x3 x4
        refine hK.out _ _ trivial (fun hHeld => ?_)
        clear hK K'
        (try simp only [List.getElem_toArray, List.getElem_cons_zero, List.getElem_cons_succ, Act.put, List.setIfInBounds_toArray, List.set_cons_zero, List.set_cons_succ])
        refine wpAnyH_take (i := 14) (v := ?_) rfl (by kernel_rfl) (by kernel_rfl) (by kernel_rfl) (fun _ _ _ h => h) (Or.inl ⟨by rfl, ?_⟩) (by assumption) ?_
        rotate_left
        · intro w' hSw; (try dsimp only at hSw); (try simp only [List.getElem_toArray, List.getElem_cons_zero, List.getElem_cons_succ]); go_simp; try with_reducible rfl
        (try simp only [List.getElem_toArray, List.getElem_cons_zero, List.getElem_cons_succ, Act.put, List.setIfInBounds_toArray, List.set_cons_zero, List.set_cons_succ])
        refine wpAnyH_ready (rs := [8]) (by kernel_rfl) (by simp) ?_
        refine (AllReadyH.cons rfl (fun K' hK => ?_) AllReadyH.nil)
        go_simp
        (try go_split_ands)
        refine (M1.out wd DD.out).mono ?_
        rintro e wa ⟨u8, rfl, r8, g8⟩
        obtain ⟨p8, c8, rfl⟩ := (r8 _ (Below.refl _ _)).form
        have RA := Lib.hid r8
        have G8 := Lib.hid g8
        have Ewa : Hid (Below w.heap.size w wa) := Lib.hid (next0 DD.out g8)
        clear r8 g8
        refine hK.out _ _ trivial (fun hHeld => ?_)
        clear hK K'
        (try simp only [List.getElem_toArray, List.getElem_cons_zero, List.getElem_cons_succ, Act.put, List.setIfInBounds_toArray, List.set_cons_zero, List.set_cons_succ])
        refine wpAnyH_ready (rs := [15]) (by kernel_rfl) (by simp) ?_
        refine (AllReadyH.cons rfl (fun K' hK => ?_) AllReadyH.nil)
        go_simp
        (try go_split_ands)
        refine (M2.out wa Ewa.out).mono ?_
        rintro e wb ⟨u15, rfl, r15, g15⟩
        obtain ⟨p15, c15, rfl⟩ := (r15 _ (Below.refl _ _)).form
        have RB := Lib.hid r15
        have G15 := Lib.hid g15
        have Ewb : Hid (Below w.heap.size w wb) := Lib.hid (next0 Ewa.out g15)
        clear r15 g15
        refine hK.out _ _ trivial (fun hHeld => ?_)
        clear hK K'
        (try simp only [List.getElem_toArray, List.getElem_cons_zero, List.getElem_cons_succ, Act.put, List.setIfInBounds_toArray, List.set_cons_zero, List.set_cons_succ])
        have R2 := Lib.hid (RA.out.step G15.out)
        have PP := Lib.hid (pre_mk HEU.out Ewb.out R2.out RB.out)
        have y1 := (EngU.below HEU.out Ewb.out).f3
        have y2 := (EngU.below HEU.out Ewb.out).f4
        have y3 := (EngU.below HEU.out Ewb.out).free 3
        have y4 := (EngU.below HEU.out Ewb.out).free 4
        refine wpAnyH_take (i := 16) (v := ?_) rfl (by kernel_rfl) (by kernel_rfl) (by kernel_rfl) (fun _ _ _ h => h) (Or.inl ⟨by rfl, ?_⟩) (by assumption) ?_
        rotate_left
        · intro w' hSw; (try dsimp only at hSw); (try simp only [List.getElem_toArray, List.getElem_cons_zero, List.getElem_cons_succ]); go_simp; try with_reducible rfl
        (try simp only [List.getElem_toArray, List.getElem_cons_zero, List.getElem_cons_succ, Act.put, List.setIfInBounds_toArray, List.set_cons_zero, List.set_cons_succ])
        refine wpAnyH_take (i := 17) (v := ?_) rfl (by kernel_rfl) (by kernel_rfl) (by kernel_rfl) (fun _ _ _ h => h) (Or.inl ⟨by rfl, ?_⟩) (by assumption) ?_
        rotate_left
        · intro w' hSw; (try dsimp only at hSw); (try simp only [List.getElem_toArray, List.getElem_cons_zero, List.getElem_cons_succ]); go_simp; try with_reducible rfl
        (try simp only [List.getElem_toArray, List.getElem_cons_zero, List.getElem_cons_succ, Act.put, List.setIfInBounds_toArray, List.set_cons_zero, List.set_cons_succ])
        refine wpAnyH_ready (rs := [18]) (by kernel_rfl) (by simp) ?_
        refine (AllReadyH.cons rfl (fun K' hK => ?_) AllReadyH.nil)
        go_simp
        (try go_split_ands)
        refine hK.out _ _ trivial (fun hHeld => ?_)
        clear hK K'
        (try simp only [List.getElem_toArray, List.getElem_cons_zero, List.getElem_cons_succ, Act.put, List.setIfInBounds_toArray, List.set_cons_zero, List.set_cons_succ])
        have z2 : (wb.setCell ⟨ge, 3, none⟩ (.slice p8 (memB st n.bases.length).length c8)).cell? ⟨ge, 4, none⟩ = some (.slice pm n.inputs.length cm) := (World.cell?_setCell_other _ _ _ _ (by intro e; injection e with e1 e2; omega)).trans y2
        have z4 : (wb.setCell ⟨ge, 3, none⟩ (.slice p8 (memB st n.bases.length).length c8)).frozen? ⟨ge, 4, none⟩ = false := by rw [World.frozen?_setCell]; exact y4
        refine wpAnyH_take (i := 19) (v := ?_) rfl (by kernel_rfl) (by kernel_rfl) (by kernel_rfl) (fun _ _ _ h => h) (Or.inl ⟨by rfl, ?_⟩) (by assumption) ?_
        rotate_left
        · intro w' hSw; (try dsimp only at hSw); (try simp only [List.getElem_toArray, List.getElem_cons_zero, List.getElem_cons_succ]); go_simp; try with_reducible rfl
        (try simp only [List.getElem_toArray, List.getElem_cons_zero, List.getElem_cons_succ, Act.put, List.setIfInBounds_toArray, List.set_cons_zero, List.set_cons_succ])
        refine wpAnyH_take (i := 20) (v := ?_) rfl (by kernel_rfl) (by kernel_rfl) (by kernel_rfl) (fun _ _ _ h => h) (Or.inl ⟨by rfl, ?_⟩) (by assumption) ?_
        rotate_left
        · intro w' hSw; (try dsimp only at hSw); (try simp only [List.getElem_toArray, List.getElem_cons_zero, List.getElem_cons_succ]); go_simp; try with_reducible rfl
        (try simp only [List.getElem_toArray, List.getElem_cons_zero, List.getElem_cons_succ, Act.put, List.setIfInBounds_toArray, List.set_cons_zero, List.set_cons_succ])
        refine wpAnyH_ready (rs := [21]) (by kernel_rfl) (by simp) ?_
        refine (AllReadyH.cons rfl (fun K' hK => ?_) AllReadyH.nil)
        go_simp
        (try go_split_ands)
        refine hK.out _ _ trivial (fun hHeld => ?_)
        clear hK K'
        (try simp only [List.getElem_toArray, List.getElem_cons_zero, List.getElem_cons_succ, Act.put, List.setIfInBounds_toArray, List.set_cons_zero, List.set_cons_succ])
        refine wpAnyH_done (by kernel_rfl) ?_ _
        go_wp2_with fail
        go_meet
        exact PP
    case' q2 =>
      obtain ⟨x3, x4⟩ := CE.out wd DD.out
      go_simp
      (try go_split_ands)
      clear x3 x4
      refine hK.out _ _ trivial (fun hHeld => ?_)
      clear hK K'
      (try simp only [List.getElem_toArray, List.getElem_cons_zero, List.getElem_cons_succ, Act.put, List.setIfInBounds_toArray, List.set_cons_zero, List.set_cons_succ])
      refine wpAnyH_take (i := 14) (v := ?_) rfl (by kernel_rfl) (by kernel_rfl) (by kernel_rfl) (fun _ _ _ h => h) (Or.inl ⟨by rfl, ?_⟩) (by assumption) ?_
      rotate_left
      · intro w' hSw; (try dsimp only at hSw); (try simp only [List.getElem_toArray, List.getElem_cons_zero, List.getElem_cons_succ]); go_simp; try with_reducible rfl
      (try simp only [List.getElem_toArray, List.getElem_cons_zero, List.getElem_cons_succ, Act.put, List.setIfInBounds_toArray, List.set_cons_zero, List.set_cons_succ])
      refine wpAnyH_ready (rs := [6]) (by kernel_rfl) (by simp) ?_
      refine (AllReadyH.cons rfl (fun K' hK => ?_) AllReadyH.nil)
      obtain ⟨x3, x4⟩ := CE.out wd DD.out
      go_simp
      (try go_split_ands)
      clear x3 x4
      refine hK.out _ _ trivial (fun hHeld => ?_)
      clear hK K'
      (try simp only [List.getElem_toArray, List.getElem_cons_zero, List.getElem_cons_succ, Act.put, List.setIfInBounds_toArray, List.set_cons_zero, List.set_cons_succ])
      refine wpAnyH_take (i := 7) (v := ?_) rfl (by kernel_rfl) (by kernel_rfl) (by kernel_rfl) (fun _ _ _ h => h) (Or.inl ⟨by rfl, ?_⟩) (by assumption) ?_
      rotate_left
      · intro w' hSw; (try dsimp only at hSw); (try simp only [List.getElem_toArray, List.getElem_cons_zero, List.getElem_cons_succ]); go_simp; try with_reducible rfl
      (try simp only [List.getElem_toArray, List.getElem_cons_zero, List.getElem_cons_succ, Act.put, List.setIfInBounds_toArray, List.set_cons_zero, List.set_cons_succ])
      refine wpAnyH_ready (rs := [8]) (by kernel_rfl) (by simp) ?_
      refine (AllReadyH.cons rfl (fun K' hK => ?_) AllReadyH.nil)
      go_simp
      (try go_split_ands)
      refine (M1.out wd DD.out).mono ?_
      rintro e wa ⟨u8, rfl, r8, g8⟩
      obtain ⟨p8, c8, rfl⟩ := (r8 _ (Below.refl _ _)).form
      have RA := Lib.hid r8
      have G8 := Lib.hid g8
      have Ewa : Hid (Below w.heap.size w wa) := Lib.hid (next0 DD.out g8)
      clear r8 g8
      refine hK.out _ _ trivial (fun hHeld => ?_)
      clear hK K'
      (try simp only [List.getElem_toArray, List.getElem_cons_zero, List.getElem_cons_succ, Act.put, List.setIfInBounds_toArray, List.set_cons_zero, List.set_cons_succ])
      refine wpAnyH_ready (rs := [15]) (by kernel_rfl) (by simp) ?_
      refine (AllReadyH.cons rfl (fun K' hK => ?_) AllReadyH.nil)
      go_simp
      (try go_split_ands)
      refine (M2.out wa Ewa.out).mono ?_
      rintro e wb ⟨u15, rfl, r15, g15⟩
      obtain ⟨p15, c15, rfl⟩ := (r15 _ (Below.refl _ _)).form
      have RB := Lib.hid r15
      have G15 := Lib.hid g15
      have Ewb : Hid (Below w.heap.size w wb) := Lib.hid (next0 Ewa.out g15)
      clear r15 g15
      refine hK.out _ _ trivial (fun hHeld => ?_)
      clear hK K'
      (try simp only [List.getElem_toArray, List.getElem_cons_zero, List.getElem_cons_succ, Act.put, List.setIfInBounds_toArray, List.set_cons_zero, List.set_cons_succ])
      have R2 := Lib.hid (RA.out.step G15.out)
      have PP := Lib.hid (pre_mk HEU.out Ewb.out R2.out RB.out)
      have y1 := (EngU.below HEU.out Ewb.out).f3
      have y2 := (EngU.below HEU.out Ewb.out).f4
      have y3 := (EngU.below HEU.out Ewb.out).free 3
      have y4 := (EngU.below HEU.out Ewb.out).free 4
      refine wpAnyH_take (i := 16) (v := ?_) rfl (by kernel_rfl) (by kernel_rfl) (by kernel_rfl) (fun _ _ _ h => h) (Or.inl ⟨by rfl, ?_⟩) (by assumption) ?_
      rotate_left
      · intro w' hSw; (try dsimp only at hSw); (try simp only [List.getElem_toArray, List.getElem_cons_zero, List.getElem_cons_succ]); go_simp; try with_reducible rfl
      (try simp only [List.getElem_toArray, List.getElem_cons_zero, List.getElem_cons_succ, Act.put, List.setIfInBounds_toArray, List.set_cons_zero, List.set_cons_succ])
      refine wpAnyH_take (i := 17) (v := ?_) rfl (by kernel_rfl) (by kernel_rfl) (by kernel_rfl) (fun _ _ _ h => h) (Or.inl ⟨by rfl, ?_⟩) (by assumption) ?_
      rotate_left
      · intro w' hSw; (try dsimp only at hSw); (try simp only [List.getElem_toArray, List.getElem_cons_zero, List.getElem_cons_succ]); go_simp; try with_reducible rfl
      (try simp only [List.getElem_toArray, List.getElem_cons_zero, List.getElem_cons_succ, Act.put, List.setIfInBounds_toArray, List.set_cons_zero, List.set_cons_succ])
      refine wpAnyH_ready (rs := [18]) (by kernel_rfl) (by simp) ?_
      refine (AllReadyH.cons rfl (fun K' hK => ?_) AllReadyH.nil)
      go_simp
      (try go_split_ands)
      refine hK.out _ _ trivial (fun hHeld => ?_)
      clear hK K'
      (try simp only [List.getElem_toArray, List.getElem_cons_zero, List.getElem_cons_succ, Act.put, List.setIfInBounds_toArray, List.set_cons_zero, List.set_cons_succ])
      have z2 : (wb.setCell ⟨ge, 3, none⟩ (.slice p8 (memB st n.bases.length).length c8)).cell? ⟨ge, 4, none⟩ = some (.slice pm n.inputs.length cm) := (World.cell?_setCell_other _ _ _ _ (by intro e; injection e with e1 e2; omega)).trans y2
      have z4 : (wb.setCell ⟨ge, 3, none⟩ (.slice p8 (memB st n.bases.length).length c8)).frozen? ⟨ge, 4, none⟩ = false := by rw [World.frozen?_setCell]; exact y4
      refine wpAnyH_take (i := 19) (v := ?_) rfl (by kernel_rfl) (by kernel_rfl) (by kernel_rfl) (fun _ _ _ h => h) (Or.inl ⟨by rfl, ?_⟩) (by assumption) ?_
      rotate_left
      · intro w' hSw; (try dsimp only at hSw); (try simp only [List.getElem_toArray, List.getElem_cons_zero, List.getElem_cons_succ]); go_simp; try with_reducible rfl
      (try simp only [List.getElem_toArray, List.getElem_cons_zero, List.getElem_cons_succ, Act.put, List.setIfInBounds_toArray, List.set_cons_zero, List.set_cons_succ])
      refine wpAnyH_take (i := 20) (v := ?_) rfl (by kernel_rfl) (by kernel_rfl) (by kernel_rfl) (fun _ _ _ h => h) (Or.inl ⟨by rfl, ?_⟩) (by assumption) ?_
      rotate_left
      · intro w' hSw; (try dsimp only at hSw); (try simp only [List.getElem_toArray, List.getElem_cons_zero, List.getElem_cons_succ]); go_simp; try with_reducible rfl
      (try simp only [List.getElem_toArray, List.getElem_cons_zero, List.getElem_cons_succ, Act.put, List.setIfInBounds_toArray, List.set_cons_zero, List.set_cons_succ])
      refine wpAnyH_ready (rs := [21]) (by kernel_rfl) (by simp) ?_
      refine (AllReadyH.cons rfl (fun K' hK => ?_) AllReadyH.nil)
      go_simp
      (try go_split_ands)
      refine hK.out _ _ trivial (fun hHeld => ?_)
      clear hK K'
      (try simp only [List.getElem_toArray, List.getElem_cons_zero, List.getElem_cons_succ, Act.put, List.setIfInBounds_toArray, List.set_cons_zero, List.set_cons_succ])
      refine wpAnyH_done (by kernel_rfl) ?_ _
      go_wp2_with fail
      go_meet
      exact PP
  case rest =>
  generalize hww : wc = w7 at *
  clear hww
  obtain ⟨vf7, vm7, e7⟩ := hcut.out.ex
  have L7 := Lib.hid hcut.out.lt
  have U7 := Lib.hid (UPD.out w7 vf7 vm7 e7)
  clear e7 hcut UPD CE HEU M1 M2
  obtain ⟨ch, hch⟩ : ∃ ch, chN (valsN st0 ip0 n) (valsN st ip n) n.gates.length = ch := ⟨_, rfl⟩
  rw [hch] at U7
  have HCH := Lib.hid hch
  clear hch
  go_wp2_with fail
  refine U7.out.mono ?_
  rintro e w8 ⟨rfl, e8, l8⟩
  have Q8 : Hid (SetQ n ge gb gv cb cv R st ip (wkN (valsN st0 ip0 n) (valsN st ip n) n n.gates.length : Nat) w w8) := Lib.hid ⟨⟨_, _, e8⟩, L7.out.trans l8⟩
  clear e8 l8 U7
  go_wp2_with fail
  refine bodyPost_ret (v := .tuple #[.int .i64 (ch : Nat), .int .i64 0]) (by simp [results, Tryz.results9, go_sem]) rfl ?_
  exact ⟨by rw [HCH.out], Q8.out⟩
end NetDs
end Go.Proofs.YtgbbpliihglijaaGreat
