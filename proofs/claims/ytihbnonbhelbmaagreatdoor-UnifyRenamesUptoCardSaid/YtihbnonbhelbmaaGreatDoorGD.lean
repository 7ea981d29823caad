/- Texts laid together: UnqB; UnrA; UnrB; UnrC; UnrD; UnmK; UnmL. Their own heads stand before each. -/
import Derived.Test.YtihbnonbhelbmaaGreatDoorGB
import Derived.Test.YtihbnonbhelbmaaGreatDoorGA
import Derived.Test.YtihbnonbhelbmaaGreatDoorLigU
import Derived.Deep.RegionHeld3
import Derived.Deep.DeepCutAuto
import Derived.Lib.ItoaLen
import Derived.Lib.AppendIntMem
import Derived.Test.YtihbnonbhelbmaaGreatDoorUniP
import Derived.Test.YtihbnonbhelbmaaGreatDoorTermEq
import Derived.Deep.RegionLaw
/- replaceInRule of the code: a rule's head and the atoms of its body, replaced. Made by genrule.py. Conditions: at most a thousand literals; what is called for each term answers. -/
namespace Go.Proofs.YtihbnonbhelbmaaGreatDoor
open Go Go.RowKit
namespace UnqB
open LexM TermM TermI Kit TermN TermU UniK UniM UniA UniD UniE UniF UniG UniR UnmH LigG LigU LigY UnqA
/-- What is called for a term leaves: a term whose lists lie in blocks of the kind or in new ones. -/
def RpX (ok0 : Nat → Prop) (u : Tm) (w : World) (e : Ending) (w' : World) : Prop :=
  ∃ (q : Option Addr) (d : Nat), e = .returned (.agg #[.string u.nm, .slice q u.args.length d]) ∧ SlIn (fun b => ok0 b ∨ (w.heap.size ≤ b ∧ b < w'.heap.size)) w' u.args (.slice q u.args.length d) ∧ u.nm.size ≤ maxLen ∧ Below w.heap.size w w'
theorem okx1 {ok0 : Nat → Prop} {a lo hi c : Nat} (h : ∀ b, ok0 b → b < a) (h1 : a ≤ c) (h2 : hi ≤ c) : ∀ b, (ok0 b ∨ (lo ≤ b ∧ b < hi)) → b < c := fun b hb => hb.elim (fun h0 => Nat.lt_of_lt_of_le (h b h0) h1) fun h => Nat.lt_of_lt_of_le h.2 h2
theorem okx2 {ok0 : Nat → Prop} {a R lo hi c : Nat} {v : Value} (h : ∀ b, ok0 b → b < a) (h1 : a ≤ R) (h2 : R + 1 ≤ lo) (h3 : a ≤ c) (h4 : hi ≤ c) (hv : ∀ k, v.ownBlock = some k → R + 1 ≤ k ∧ k < lo) : ∀ b, (ok0 b ∨ (lo ≤ b ∧ b < hi)) → (ok0 b ∨ R + 1 ≤ b) ∧ b < c ∧ v.ownBlock ≠ some b := fun b hb => by
  rcases hb with hb | hb
  · have := h b hb
    exact ⟨Or.inl hb, by omega, fun e => by have := hv b e; omega⟩
  · exact ⟨Or.inr (by omega), by omega, fun e => by have := hv b e; omega⟩
theorem next9 {ex : Nat → Prop} {a b c : World} (h : Below a.heap.size a b) (g : Lt ex b c) (hx : ∀ i, ex i → a.heap.size ≤ i) : Below a.heap.size a c := h.trans (g.toBelow h.size hx)
set_option maxRecDepth 100000 in
set_option maxHeartbeats 6400000 in
theorem rir_any (clo : Value) (ok0 : Nat → Prop) (φ : Tm → Tm) (h : Tm) (l : List Lt) (w : World) (hv lv : Value) (hs : SlIn (· < w.heap.size) w h.args hv) (hl : LIn (· < w.heap.size) w l lv) (hn : h.nm.size ≤ maxLen) (hll : l.length ≤ 1000) (hok : ∀ b, ok0 b → b < w.heap.size)
    (HC : ∀ (t : Tm) (w' : World) (q : Value), (t = h ∨ ∃ x ∈ l, x.2 = t) → Below w.heap.size w w' → SlIn (· < w.heap.size) w' t.args q → t.nm.size ≤ maxLen → Calls Tryz.prog 45 #[.agg #[.string t.nm, q], clo] w' (RpX ok0 (φ t) w')) :
    Calls Tryz.prog 48 #[.agg #[.string h.nm, hv, lv], clo] w (RuX ok0 (φ h) (atomsL φ l) w) := by
  obtain ⟨p, c, rfl⟩ := hs.form
  obtain ⟨lp, lc, rfl⟩ := hl.form
  obtain ⟨i0, hi0, hi1, hi2, hi3⟩ := info_parts Tryz.infoL
  have hmf := @hmf0
  obtain ⟨W2, hW2⟩ : ∃ W2, W2 = (w.alloc (.cells #[.string h.nm, .slice p h.args.length c, .slice lp l.length lc] 34)).alloc (.cells #[.string ⟨#[]⟩, .slice none 0 0, .slice none 0 0] 34) := ⟨_, rfl⟩
  have B2 : Hid (Below w.heap.size w W2) := Lib.hid (by rw [hW2]; exact next0 (below_alloc _ _) (below_alloc _ _))
  have H2 : Hid (Has W2 w.heap.size #[.string h.nm, .slice p h.args.length c, .slice lp l.length lc]) := Lib.hid (by rw [hW2]; exact (Has.new w _ _).alloc _)
  have E2 : Hid (Has W2 (w.heap.size + 1) #[.string ⟨#[]⟩, .slice none 0 0, .slice none 0 0]) := Lib.hid (by rw [hW2]; exact Has.new1 w _ _ _)
  have hs2 : w.heap.size + 2 ≤ W2.heap.size := by rw [hW2]; simp
  have CB := Lib.hid (HC h W2 _ (Or.inl rfl) B2.out (hs.deep B2.out (Nat.le_refl _)) hn)
  have CX := Lib.hid (fun (x : Lt) (hx : x ∈ l) (q : Value) w0 (k0 : Below w.heap.size w w0) (hq : SlIn (· < w.heap.size) w0 x.2.args q) (hn : x.2.nm.size ≤ maxLen) w' (k : Below w.heap.size w w') (hq' : SlIn (· < w.heap.size) w' x.2.args q) => HC x.2 w' q (Or.inr ⟨x, hx, rfl⟩) k hq' hn)
  have LL := Lib.hid (fun w' (k : Below w.heap.size w w') => hl.keep (w' := w') fun b o hb => k.cell (p := ⟨b, o, none⟩) hb)
  have AT := Lib.hid (fun k x (hx : l[k]? = some x) => atoms_next (φ := φ) hx)
  have AE : Hid (atomsL φ (l.take l.length) = atomsL φ l) := Lib.hid (by rw [List.take_length])
  have AL : Hid (∀ k, k ≤ l.length → (atomsL φ (l.take k)).length = k) := Lib.hid (fun k hk => by unfold atomsL; rw [List.length_map, List.length_take]; omega)
  have OK0 := Lib.hid hok
  clear hs hn HC hok hl
  generalize φ h = u at *
  unfold RpX at CB CX
  generalize h.nm = hnm at *
  generalize h.args.length = hln at *
  generalize hnl : l.length = n at *
  have HNL := Lib.hid hnl
  clear hnl
  obtain ⟨y1, y2, y3⟩ := UniA.three H2.out
  go_enter Tryz.func48, Tryz.ntmps48
  go_upto_region 1 with fail
  rw [← hW2]
  clear hW2
  go_wp2_with fail
  refine CB.out.mono ?_
  rintro e w3 ⟨q, d, rfl, hS, hnu, k3⟩
  have D3 := Lib.hid (next0 B2.out k3)
  have H3 := Lib.hid (H2.out.step0 k3)
  have E3 := Lib.hid (E2.out.step0 k3)
  have hs3 : W2.heap.size ≤ w3.heap.size := k3.size
  have NU := Lib.hid hnu
  clear y1 y2 y3 hnu k3 H2 E2 CB
  obtain ⟨R, hR⟩ : ∃ m, m = w3.heap.size := ⟨_, rfl⟩
  have S3 : Hid (SlIn (fun b => ok0 b ∨ (W2.heap.size ≤ b ∧ b < R)) w3 u.args (.slice q u.args.length d)) := Lib.hid (by rw [hR]; exact hS)
  obtain ⟨W4, hW4⟩ : ∃ W4, W4 = w3.alloc (.cells #[.string u.nm, .slice q u.args.length d, .slice none 0 0] 34) := ⟨_, rfl⟩
  have K4 : Hid (Below w3.heap.size w3 W4) := Lib.hid (by rw [hW4]; exact below_alloc _ _)
  have R4 : Hid (Has W4 R #[.string u.nm, .slice q u.args.length d, .slice none 0 0]) := Lib.hid (by rw [hW4, hR]; exact Has.new _ _ _)
  have hs4 : R + 1 ≤ W4.heap.size := by rw [hW4, hR]; simp
  have H4 := Lib.hid (H3.out.step0 K4.out)
  have E4 := Lib.hid (E3.out.step0 K4.out)
  have D4 := Lib.hid (next0 D3.out K4.out)
  have hw2R : w.heap.size + 2 ≤ R := by omega
  have S4 := Lib.hid (S3.out.frame (w' := W4) fun b o hb => K4.out.cell (p := ⟨b, o, none⟩) (okx1 OK0.out (show w.heap.size ≤ w3.heap.size by omega) (show R ≤ w3.heap.size by omega) b hb))
  clear D3 H3 E3 S3 hS
  generalize hun : u.nm = hu at *
  have HHU := Lib.hid hun
  generalize hul : u.args.length = hl at *
  have HHL := Lib.hid hul
  clear hun hul
  obtain ⟨y1, y2, y3⟩ := UniA.three H4.out
  go_upto_region 2 with fail
  rw [← hW4, ← hR]
  clear hW4 hR
  go_wp2_with fail
  go_loopw [16] (fun i wr => ∃ (k : Nat) (L : List (Lt × Value)) (v : Value), k ≤ n ∧ i = .int .i64 k ∧ Hid (L.map (·.1) = atomsL φ (l.take k)) ∧ Hid (OwnX KL ok0 (R + 1) wr L v) ∧ Hid (Has wr R #[.string hu, .slice q hl d, v]) ∧ Hid (Has wr (w.heap.size + 1) #[.string ⟨#[]⟩, .slice none 0 0, .slice none 0 0]) ∧ Hid (SlIn (fun b => ok0 b ∨ (W2.heap.size ≤ b ∧ b < R)) wr u.args (.slice q hl d)) ∧ Hid (Below w.heap.size w wr)) (fun i _ => n - (intOf i).toNat)
  case atStart => exact ⟨0, [], _, Nat.zero_le _, rfl, Lib.hid rfl, Lib.hid (OwnX.nil _ _ _), R4, E4, S4, D4⟩
  case round =>
    clear R4 E4 S4 H4 y1 y2 y3
    obtain ⟨k, L, v, hk, rfl, hM, hO, hRb, hE, hS, hD⟩ := hrel
    obtain ⟨va, vc, rfl⟩ := hO.out.form
    by_cases hlt : k < n
    · obtain ⟨x, g, o, q5, d5, hx, rfl, hg, e1, e2, e3, hxs, hxn⟩ := lin_row (LL.out wr hD.out) k (by rw [HNL.out]; exact hlt)
      have hLk : L.length = k := by
        have := congrArg List.length hM.out
        rw [List.length_map, AL.out k hk] at this
        exact this
      have CR0 := Lib.hid (fun w' (k : Below wr.heap.size wr w') => CX.out x (List.mem_of_getElem? hx) _ wr hD.out hxs hxn w' (next0 hD.out k) (hxs.deep k hD.out.size))
      have HM1 : Hid (∀ z : Value, (L ++ [((x.1, φ x.2), z)]).map (·.1) = atomsL φ (l.take (k + 1))) := Lib.hid (fun z => by rw [AT.out k x hx, List.map_append, hM.out]; rfl)
      obtain ⟨Wb, hWb⟩ : ∃ z, z = wr.alloc (.cells #[.bool x.1, .string x.2.nm, .slice q5 x.2.args.length d5] 67) := ⟨_, rfl⟩
      obtain ⟨bx, hbx⟩ : ∃ m, m = wr.heap.size := ⟨_, rfl⟩
      have KB : Hid (Below wr.heap.size wr Wb) := Lib.hid (by rw [hWb]; exact below_alloc _ _)
      have HX : Hid (Has Wb bx #[.bool x.1, .string x.2.nm, .slice q5 x.2.args.length d5]) := Lib.hid (by rw [hWb, hbx]; exact Has.new _ _ _)
      have hOl := hO.out.1.lt
      have hRl := hRb.out.lt
      have OL : Hid (∀ k, (Value.slice va L.length vc).ownBlock = some k → R + 1 ≤ k ∧ k < bx) := Lib.hid (by rw [hbx]; exact hOl)
      have HR := Lib.hid (hRb.out.step0 KB.out)
      have O := Lib.hid (hO.out.below KB.out)
      have K := Lib.hid (next0 hD.out KB.out)
      have EQ5 := Lib.hid (hE.out.step0 KB.out)
      have SQ5 := Lib.hid (hS.out.frame (w' := Wb) fun b o hb => KB.out.cell (p := ⟨b, o, none⟩) (okx1 OK0.out hD.out.size (show R ≤ wr.heap.size by omega) b hb))
      have CR := Lib.hid (fun w' (k : Below Wb.heap.size Wb w') => CR0.out w' (next0 KB.out k))
      have AD := Lib.hid (fun (ok' : Nat → Prop) (w' : World) (v : Value) (h1 : SlIn ok' w' (φ x.2).args v) (h2 : (φ x.2).nm.size ≤ maxLen) => show KL.inn ok' w' ((x.1, φ x.2), v) from ⟨h1, h2⟩)
      have AF := Lib.hid (fun (w9 : World) (vv v : Value) (n : Nat) (h : w9.ownsRow (R + 1) 67 3 vv n (KL.flat L ++ [.bool x.1, .string (φ x.2).nm, v])) => show w9.ownsRow (R + 1) KL.ty 3 vv n (KL.flat L ++ KL.cells ((x.1, φ x.2), v)) from h)
      have hRb2 : R + 1 ≤ bx := by omega
      have hbW : bx < Wb.heap.size := HX.out.lt
      have A1 : L.length + 1 ≤ maxLen := by unfold maxLen; omega
      have A2 : (L.length + 1) * 48 ≤ 140737488355328 := by omega
      have Hb : Hid (∀ w', Lt (fun b => b = R ∨ (Value.slice va L.length vc).ownBlock = some b) Wb w' → (w'.cell? ⟨bx, 0, none⟩ = some (.bool x.1) ∧ w'.cell? ⟨bx, 1, none⟩ = some (.string x.2.nm) ∧ w'.cell? ⟨bx, 2, none⟩ = some (.slice q5 x.2.args.length d5))) := Lib.hid (fun w' g => by
        have := g.has HX.out (fun e => by rcases e with e | e; omega; have := OL.out _ e; omega)
        exact ⟨this.cell 0, this.cell 1, this.cell 2⟩)
      obtain ⟨z1, z2, z3, z4, z5, z6, z7⟩ := UnpP.has3 HX.out
      have e4 : wr.cell? ⟨g, o + k * 3 + 2, none⟩ = some (.slice q5 x.2.args.length d5) := e3
      clear hx hxs hxn hOl hRl CR0 KB HX hO hRb hE hS e3 hLk
      generalize x.1 = xb at *
      generalize x.2.nm = xn at *
      generalize x.2.args.length = xl at *
      generalize (φ x.2).nm = un at *
      generalize (φ x.2).args.length = ul at *
      go_upto_region 5 with fail
      rw [← hWb, ← hbx]
      clear hWb hbx z1 z2 z3 z4 z5 z6 z7 e1 e2 e4
      have X0 : Hid (Lt (fun b => b = R ∨ (Value.slice va L.length vc).ownBlock = some b) Wb Wb.drew) := Lib.hid (Lt.of (Below.refl _ _).drew)
      have K0 : Hid (Below Wb.heap.size Wb Wb.drew) := Lib.hid (Below.refl _ _).drew
      have HR0 := Lib.hid (HR.out.drew)
      have O0 : Hid (OwnX KL ok0 (R + 1) Wb.drew L (.slice va L.length vc)) := Lib.hid (O.out.below (Below.refl _ _).drew)
      refine wp_region_held_drew (S := (fun w' => w'.cell? ⟨bx, 0, none⟩ = some (.bool xb) ∧ w'.cell? ⟨bx, 1, none⟩ = some (.string xn) ∧ w'.cell? ⟨bx, 2, none⟩ = some (.slice q5 xl d5))) (by kernel_rfl) (Hb.out _ X0.out) (fun hHeld => ?_)
      have hz0 : Wb.heap.size ≤ Wb.drew.heap.size := Nat.le_refl _
      generalize hw0 : Wb.drew = wz at hHeld X0 K0 HR0 O0 hz0 ⊢
      clear hw0
      refine wpAnyH_take (i := 0) (v := ?_) rfl (by kernel_rfl) (by kernel_rfl) (by kernel_rfl) (fun _ _ _ h => h) (Or.inl ⟨by rfl, ?_⟩) (by assumption) ?_
      rotate_left
      · intro w' hSw; (try dsimp only at hSw); (try simp only [List.getElem_toArray, List.getElem_cons_zero]); go_simp; try with_reducible rfl
      (try simp only [List.getElem_toArray, List.getElem_cons_zero, Act.put, List.setIfInBounds_toArray, List.set_cons_zero, List.set_cons_succ])
      refine wpAnyH_take (i := 2) (v := ?_) rfl (by kernel_rfl) (by kernel_rfl) (by kernel_rfl) (fun _ _ _ h => h) (Or.inl ⟨by rfl, ?_⟩) (by assumption) ?_
      rotate_left
      · intro w' hSw; (try dsimp only at hSw); (try simp only [List.getElem_toArray, List.getElem_cons_zero, List.getElem_cons_succ]); go_simp; try with_reducible rfl
      (try simp only [List.getElem_toArray, List.getElem_cons_zero, List.getElem_cons_succ, Act.put, List.setIfInBounds_toArray, List.set_cons_zero, List.set_cons_succ])
      refine wpAnyH_take (i := 3) (v := ?_) rfl (by kernel_rfl) (by kernel_rfl) (by kernel_rfl) (fun _ _ _ h => h) (Or.inl ⟨by rfl, ?_⟩) (by assumption) ?_
      rotate_left
      · intro w' hSw; (try dsimp only at hSw); (try simp only [List.getElem_toArray, List.getElem_cons_zero, List.getElem_cons_succ]); go_simp; try with_reducible rfl
      (try simp only [List.getElem_toArray, List.getElem_cons_zero, List.getElem_cons_succ, Act.put, List.setIfInBounds_toArray, List.set_cons_zero, List.set_cons_succ])
      refine wpAnyH_take (i := 4) (v := ?_) rfl (by kernel_rfl) (by kernel_rfl) (by kernel_rfl) (fun _ _ _ h => h) (Or.inl ⟨by rfl, ?_⟩) (by assumption) ?_
      rotate_left
      · intro w' hSw; (try dsimp only at hSw); (try simp only [List.getElem_toArray, List.getElem_cons_zero, List.getElem_cons_succ]); go_simp; try with_reducible rfl
      (try simp only [List.getElem_toArray, List.getElem_cons_zero, List.getElem_cons_succ, Act.put, List.setIfInBounds_toArray, List.set_cons_zero, List.set_cons_succ])
      refine wpAnyH_take (i := 5) (v := ?_) rfl (by kernel_rfl) (by kernel_rfl) (by kernel_rfl) (fun _ _ _ h => h) (Or.inl ⟨by rfl, ?_⟩) (by assumption) ?_
      rotate_left
      · intro w' hSw; (try dsimp only at hSw); (try simp only [List.getElem_toArray, List.getElem_cons_zero, List.getElem_cons_succ]); go_simp; try with_reducible rfl
      (try simp only [List.getElem_toArray, List.getElem_cons_zero, List.getElem_cons_succ, Act.put, List.setIfInBounds_toArray, List.set_cons_zero, List.set_cons_succ])
      refine wpAnyH_take (i := 6) (v := ?_) rfl (by kernel_rfl) (by kernel_rfl) (by kernel_rfl) (fun _ _ _ h => h) (Or.inl ⟨by rfl, ?_⟩) (by assumption) ?_
      rotate_left
      · intro w' hSw; (try dsimp only at hSw); (try simp only [List.getElem_toArray, List.getElem_cons_zero, List.getElem_cons_succ]); go_simp; try with_reducible rfl
      (try simp only [List.getElem_toArray, List.getElem_cons_zero, List.getElem_cons_succ, Act.put, List.setIfInBounds_toArray, List.set_cons_zero, List.set_cons_succ])
      refine wpAnyH_ready (rs := [1, 7]) (by kernel_rfl) (by simp) ?_
      refine (AllReadyH.cons rfl (fun K' hK => ?_) (AllReadyH.cons rfl (fun K' hK => ?_) AllReadyH.nil))
      · skip
        obtain ⟨f1, f2, f3, f4, f5, f6, f7⟩ := UnpP.has3 HR0.out
        go_simp
        (try go_split_ands)
        clear f1 f2 f3 f4 f5 f6 f7
        refine hK.out _ _ (Hb.out _ X0.out) (fun hHeld => ?_)
        clear hK K'
        (try simp only [List.getElem_toArray, List.getElem_cons_zero, List.getElem_cons_succ, Act.put, List.setIfInBounds_toArray, List.set_cons_zero, List.set_cons_succ])
        refine wpAnyH_ready (rs := [7]) (by kernel_rfl) (by simp) ?_
        refine (AllReadyH.cons rfl (fun K' hK => ?_) AllReadyH.nil)
        go_simp
        (try go_split_ands)
        go_at_call 45
        (with_reducible refine (CR.out _ K0.out).mono ?_)
        rintro e w21 ⟨q7, d7, rfl, s7, n7, k7⟩
        have X1 := Lib.hid (Lt.below X0.out k7)
        have K1 := Lib.hid (next0 K0.out k7)
        have HR1 := Lib.hid (HR0.out.step0 k7)
        have O1 := Lib.hid (O0.out.below k7)
        have hz1 : wz.heap.size ≤ w21.heap.size := k7.size
        obtain ⟨lo, hlo⟩ : ∃ m, m = wz.heap.size := ⟨_, rfl⟩
        obtain ⟨hi, hhi⟩ : ∃ m, m = w21.heap.size := ⟨_, rfl⟩
        rw [← hlo, ← hhi] at s7
        have S1 := Lib.hid s7
        have N7 := Lib.hid n7
        clear s7 n7 k7
        refine hK.out _ _ (Hb.out _ X1.out) (fun hHeld => ?_)
        clear hK K'
        (try simp only [List.getElem_toArray, List.getElem_cons_zero, List.getElem_cons_succ, Act.put, List.setIfInBounds_toArray, List.set_cons_zero, List.set_cons_succ])
        refine wpAnyH_take (i := 8) (v := ?_) rfl (by kernel_rfl) (by kernel_rfl) (by kernel_rfl) (fun _ _ _ h => h) (Or.inl ⟨by rfl, ?_⟩) (by assumption) ?_
        rotate_left
        · intro w' hSw; (try dsimp only at hSw); (try simp only [List.getElem_toArray, List.getElem_cons_zero, List.getElem_cons_succ]); go_simp; try with_reducible rfl
        (try simp only [List.getElem_toArray, List.getElem_cons_zero, List.getElem_cons_succ, Act.put, List.setIfInBounds_toArray, List.set_cons_zero, List.set_cons_succ])
        refine wpAnyH_ready (rs := [9]) (by kernel_rfl) (by simp) ?_
        refine (AllReadyH.cons rfl (fun K' hK => ?_) AllReadyH.nil)
        go_simp
        (try go_split_ands)
        obtain ⟨w22, hw2⟩ : ∃ z, z = w21.alloc (.cells #[.bool xb, .string un, .slice q7 ul d7] 67) := ⟨_, rfl⟩
        rw [← hw2]
        have J2 : Hid (Below w21.heap.size w21 w22) := Lib.hid (by rw [hw2]; exact below_alloc _ _)
        have HB2 : Hid (Has w22 w21.heap.size #[.bool xb, .string un, .slice q7 ul d7]) := Lib.hid (by rw [hw2]; exact Has.new _ _ _)
        have hz2 : w21.heap.size + 1 ≤ w22.heap.size := by rw [hw2]; simp
        clear hw2
        have X2 := Lib.hid (Lt.below X1.out J2.out)
        have K2 := Lib.hid (next0 K1.out J2.out)
        have HR2 := Lib.hid (HR1.out.step0 J2.out)
        have O2 := Lib.hid (O1.out.below J2.out)
        have S2 := Lib.hid (S1.out.frame (w' := w22) fun b o hb => J2.out.cell (p := ⟨b, o, none⟩) (okx1 OK0.out (show w.heap.size ≤ w21.heap.size by omega) (show hi ≤ w21.heap.size by omega) b hb))
        refine hK.out _ _ (Hb.out _ X2.out) (fun hHeld => ?_)
        clear hK K'
        (try simp only [List.getElem_toArray, List.getElem_cons_zero, List.getElem_cons_succ, Act.put, List.setIfInBounds_toArray, List.set_cons_zero, List.set_cons_succ])
        refine wpAnyH_ready (rs := [10]) (by kernel_rfl) (by simp) ?_
        refine (AllReadyH.cons rfl (fun K' hK => ?_) AllReadyH.nil)
        refine step_append_lies _ rfl _ _ 32 rfl (R + 1) 67 i0 (.agg #[.bool false, .string ⟨#[]⟩, .slice none 0 0]) 3 48 Tryz.underlying32 hi0 hi1 hi2 hi3 rfl (by decide) (.slice va L.length vc) L.length (KL.flat L) rfl O2.out.1 ⟨w21.heap.size, 0, none⟩ 1 1 [.bool xb, .string un, .slice q7 ul d7] rfl rfl (World.news_of_block HB2.out.choose_spec) (one_L _ _ _ _ _) (by decide) A1 A2 (show R + 1 ≤ w22.heap.size by omega) _ rfl ?_
        intro g9 c9 w9 hown hgrow hat hlt9
        have OL9 := OL.out
        have X9 := Lib.hid (Lt.grown X2.out hgrow (fun k e => Or.inl (Or.inr e)))
        have L9 : Hid (Lt (fun b => (Value.slice va L.length vc).ownBlock = some b) w22 w9) := Lib.hid (Lt.grown (Lt.of (Below.refl _ _)) hgrow (fun k e => Or.inl e))
        have HR9 := Lib.hid (L9.out.has HR2.out (fun e => by have := OL9 _ e; omega))
        have O9 := Lib.hid (OwnX.add (K := KL) (x := ((xb, φ x.2), Value.slice q7 ul d7)) O2.out (AD.out _ _ _ S2.out N7.out) (okx2 OK0.out (show w.heap.size ≤ R by omega) (show R + 1 ≤ lo by omega) (show w.heap.size ≤ w22.heap.size by omega) (show hi ≤ w22.heap.size by omega) (fun k e => by have := OL9 k e; omega)) (AF.out _ _ _ _ hown) L9.out (hat.imp id fun h => Nat.le_of_eq h.symm))
        have hz9 : w22.heap.size ≤ w9.heap.size := L9.out.size
        clear hown hgrow OL9
        refine hK.out _ _ (Hb.out _ X9.out) (fun hHeld => ?_)
        clear hK K'
        (try simp only [List.getElem_toArray, List.getElem_cons_zero, List.getElem_cons_succ, Act.put, List.setIfInBounds_toArray, List.set_cons_zero, List.set_cons_succ])
        refine wpAnyH_take (i := 11) (v := ?_) rfl (by kernel_rfl) (by kernel_rfl) (by kernel_rfl) (fun _ _ _ h => h) (Or.inl ⟨by rfl, ?_⟩) (by assumption) ?_
        rotate_left
        · intro w' hSw; (try dsimp only at hSw); (try simp only [List.getElem_toArray, List.getElem_cons_zero, List.getElem_cons_succ]); go_simp; try with_reducible rfl
        (try simp only [List.getElem_toArray, List.getElem_cons_zero, List.getElem_cons_succ, Act.put, List.setIfInBounds_toArray, List.set_cons_zero, List.set_cons_succ])
        refine wpAnyH_ready (rs := [12]) (by kernel_rfl) (by simp) ?_
        refine (AllReadyH.cons rfl (fun K' hK => ?_) AllReadyH.nil)
        obtain ⟨f1, f2, f3, f4, f5, f6, f7⟩ := UnpP.has3 HR9.out
        go_simp
        (try go_split_ands)
        obtain ⟨w10, hw10⟩ : ∃ z, z = w9.setCell ⟨R, 2, none⟩ (.slice (some ⟨g9, 0, none⟩) (L.length + 1) c9) := ⟨_, rfl⟩
        rw [← hw10]
        have X10 : Hid (Lt (fun b => b = R ∨ (Value.slice va L.length vc).ownBlock = some b) Wb w10) := Lib.hid (by rw [hw10]; exact X9.out.put (Or.inl (Or.inl rfl)) _)
        have HR10 : Hid (Has w10 R #[.string hu, .slice q hl d, .slice (some ⟨g9, 0, none⟩) (L.length + 1) c9]) := Lib.hid (by rw [hw10]; exact HR9.out.set 2 _)
        have P10 : Hid (Lt (· = R) w9 w10) := Lib.hid (by rw [hw10]; exact Lt.put (ex := (· = R)) (p := ⟨R, 2, none⟩) (Lt.of (Below.refl _ _)) (Or.inl rfl) _)
        have O10 := Lib.hid (O9.out.lt P10.out (fun i e => by subst e; exact ⟨by omega, fun h => by have := OK0.out _ h; omega⟩))
        have OL10 := OL.out
        have D10 := Lib.hid (next9 K.out X10.out (fun k e => by rcases e with e | e; omega; have := OL10 k e; omega))
        have E10 := Lib.hid (X10.out.has EQ5.out (fun e => by rcases e with e | e; omega; have := OL10 _ e; omega))
        have S10 := Lib.hid (SQ5.out.frame (w' := w10) fun b o hb => X10.out.cell (okx1 OK0.out (show w.heap.size ≤ Wb.heap.size by omega) (show R ≤ Wb.heap.size by omega) b hb) (fun e => by have h1 := okx1 OK0.out (show w.heap.size ≤ R by omega) (Nat.le_refl R) b hb; rcases e with e | e; omega; have := OL10 _ e; omega))
        clear hw10 f1 f2 f3 f4 f5 f6 f7 OL10
        refine hK.out _ _ (Hb.out _ X10.out) (fun hHeld => ?_)
        clear hK K'
        (try simp only [List.getElem_toArray, List.getElem_cons_zero, List.getElem_cons_succ, Act.put, List.setIfInBounds_toArray, List.set_cons_zero, List.set_cons_succ])
        refine wpAnyH_done (by kernel_rfl) ?_ _
        go_wp2_with fail
        go_roundw
        case rel => exact ⟨k + 1, L ++ [((xb, φ x.2), .slice q7 ul d7)], _, by omega, by go_num, Lib.hid (HM1.out _), O10, HR10, E10, S10, D10⟩
        case measure => simp [intOf]; omega
      · skip
        go_simp
        (try go_split_ands)
        go_at_call 45
        (with_reducible refine (CR.out _ K0.out).mono ?_)
        rintro e w24 ⟨q7, d7, rfl, s7, n7, k7⟩
        have X4 := Lib.hid (Lt.below X0.out k7)
        have K4 := Lib.hid (next0 K0.out k7)
        have HR4 := Lib.hid (HR0.out.step0 k7)
        have O4 := Lib.hid (O0.out.below k7)
        have hz4 : wz.heap.size ≤ w24.heap.size := k7.size
        obtain ⟨lo, hlo⟩ : ∃ m, m = wz.heap.size := ⟨_, rfl⟩
        obtain ⟨hi, hhi⟩ : ∃ m, m = w24.heap.size := ⟨_, rfl⟩
        rw [← hlo, ← hhi] at s7
        have S4 := Lib.hid s7
        have N7 := Lib.hid n7
        clear s7 n7 k7
        refine hK.out _ _ (Hb.out _ X4.out) (fun hHeld => ?_)
        clear hK K'
        (try simp only [List.getElem_toArray, List.getElem_cons_zero, List.getElem_cons_succ, Act.put, List.setIfInBounds_toArray, List.set_cons_zero, List.set_cons_succ])
        refine wpAnyH_take (i := 8) (v := ?_) rfl (by kernel_rfl) (by kernel_rfl) (by kernel_rfl) (fun _ _ _ h => h) (Or.inl ⟨by rfl, ?_⟩) (by assumption) ?_
        rotate_left
        · intro w' hSw; (try dsimp only at hSw); (try simp only [List.getElem_toArray, List.getElem_cons_zero, List.getElem_cons_succ]); go_simp; try with_reducible rfl
        (try simp only [List.getElem_toArray, List.getElem_cons_zero, List.getElem_cons_succ, Act.put, List.setIfInBounds_toArray, List.set_cons_zero, List.set_cons_succ])
        refine wpAnyH_ready (rs := [1, 9]) (by kernel_rfl) (by simp) ?_
        refine (AllReadyH.cons rfl (fun K' hK => ?_) (AllReadyH.cons rfl (fun K' hK => ?_) AllReadyH.nil))
        · skip
          obtain ⟨f1, f2, f3, f4, f5, f6, f7⟩ := UnpP.has3 HR4.out
          go_simp
          (try go_split_ands)
          clear f1 f2 f3 f4 f5 f6 f7
          refine hK.out _ _ (Hb.out _ X4.out) (fun hHeld => ?_)
          clear hK K'
          (try simp only [List.getElem_toArray, List.getElem_cons_zero, List.getElem_cons_succ, Act.put, List.setIfInBounds_toArray, List.set_cons_zero, List.set_cons_succ])
          refine wpAnyH_ready (rs := [9]) (by kernel_rfl) (by simp) ?_
          refine (AllReadyH.cons rfl (fun K' hK => ?_) AllReadyH.nil)
          go_simp
          (try go_split_ands)
          obtain ⟨w25, hw5⟩ : ∃ z, z = w24.alloc (.cells #[.bool xb, .string un, .slice q7 ul d7] 67) := ⟨_, rfl⟩
          rw [← hw5]
          have J5 : Hid (Below w24.heap.size w24 w25) := Lib.hid (by rw [hw5]; exact below_alloc _ _)
          have HB5 : Hid (Has w25 w24.heap.size #[.bool xb, .string un, .slice q7 ul d7]) := Lib.hid (by rw [hw5]; exact Has.new _ _ _)
          have hz5 : w24.heap.size + 1 ≤ w25.heap.size := by rw [hw5]; simp
          clear hw5
          have X5 := Lib.hid (Lt.below X4.out J5.out)
          have K5 := Lib.hid (next0 K4.out J5.out)
          have HR5 := Lib.hid (HR4.out.step0 J5.out)
          have O5 := Lib.hid (O4.out.below J5.out)
          have S5 := Lib.hid (S4.out.frame (w' := w25) fun b o hb => J5.out.cell (p := ⟨b, o, none⟩) (okx1 OK0.out (show w.heap.size ≤ w24.heap.size by omega) (show hi ≤ w24.heap.size by omega) b hb))
          refine hK.out _ _ (Hb.out _ X5.out) (fun hHeld => ?_)
          clear hK K'
          (try simp only [List.getElem_toArray, List.getElem_cons_zero, List.getElem_cons_succ, Act.put, List.setIfInBounds_toArray, List.set_cons_zero, List.set_cons_succ])
          refine wpAnyH_ready (rs := [10]) (by kernel_rfl) (by simp) ?_
          refine (AllReadyH.cons rfl (fun K' hK => ?_) AllReadyH.nil)
          refine step_append_lies _ rfl _ _ 32 rfl (R + 1) 67 i0 (.agg #[.bool false, .string ⟨#[]⟩, .slice none 0 0]) 3 48 Tryz.underlying32 hi0 hi1 hi2 hi3 rfl (by decide) (.slice va L.length vc) L.length (KL.flat L) rfl O5.out.1 ⟨w24.heap.size, 0, none⟩ 1 1 [.bool xb, .string un, .slice q7 ul d7] rfl rfl (World.news_of_block HB5.out.choose_spec) (one_L _ _ _ _ _) (by decide) A1 A2 (show R + 1 ≤ w25.heap.size by omega) _ rfl ?_
          intro g9 c9 w9 hown hgrow hat hlt9
          have OL9 := OL.out
          have X9 := Lib.hid (Lt.grown X5.out hgrow (fun k e => Or.inl (Or.inr e)))
          have L9 : Hid (Lt (fun b => (Value.slice va L.length vc).ownBlock = some b) w25 w9) := Lib.hid (Lt.grown (Lt.of (Below.refl _ _)) hgrow (fun k e => Or.inl e))
          have HR9 := Lib.hid (L9.out.has HR5.out (fun e => by have := OL9 _ e; omega))
          have O9 := Lib.hid (OwnX.add (K := KL) (x := ((xb, φ x.2), Value.slice q7 ul d7)) O5.out (AD.out _ _ _ S5.out N7.out) (okx2 OK0.out (show w.heap.size ≤ R by omega) (show R + 1 ≤ lo by omega) (show w.heap.size ≤ w25.heap.size by omega) (show hi ≤ w25.heap.size by omega) (fun k e => by have := OL9 k e; omega)) (AF.out _ _ _ _ hown) L9.out (hat.imp id fun h => Nat.le_of_eq h.symm))
          have hz9 : w25.heap.size ≤ w9.heap.size := L9.out.size
          clear hown hgrow OL9
          refine hK.out _ _ (Hb.out _ X9.out) (fun hHeld => ?_)
          clear hK K'
          (try simp only [List.getElem_toArray, List.getElem_cons_zero, List.getElem_cons_succ, Act.put, List.setIfInBounds_toArray, List.set_cons_zero, List.set_cons_succ])
          refine wpAnyH_take (i := 11) (v := ?_) rfl (by kernel_rfl) (by kernel_rfl) (by kernel_rfl) (fun _ _ _ h => h) (Or.inl ⟨by rfl, ?_⟩) (by assumption) ?_
          rotate_left
          · intro w' hSw; (try dsimp only at hSw); (try simp only [List.getElem_toArray, List.getElem_cons_zero, List.getElem_cons_succ]); go_simp; try with_reducible rfl
          (try simp only [List.getElem_toArray, List.getElem_cons_zero, List.getElem_cons_succ, Act.put, List.setIfInBounds_toArray, List.set_cons_zero, List.set_cons_succ])
          refine wpAnyH_ready (rs := [12]) (by kernel_rfl) (by simp) ?_
          refine (AllReadyH.cons rfl (fun K' hK => ?_) AllReadyH.nil)
          obtain ⟨f1, f2, f3, f4, f5, f6, f7⟩ := UnpP.has3 HR9.out
          go_simp
          (try go_split_ands)
          obtain ⟨w10, hw10⟩ : ∃ z, z = w9.setCell ⟨R, 2, none⟩ (.slice (some ⟨g9, 0, none⟩) (L.length + 1) c9) := ⟨_, rfl⟩
          rw [← hw10]
          have X10 : Hid (Lt (fun b => b = R ∨ (Value.slice va L.length vc).ownBlock = some b) Wb w10) := Lib.hid (by rw [hw10]; exact X9.out.put (Or.inl (Or.inl rfl)) _)
          have HR10 : Hid (Has w10 R #[.string hu, .slice q hl d, .slice (some ⟨g9, 0, none⟩) (L.length + 1) c9]) := Lib.hid (by rw [hw10]; exact HR9.out.set 2 _)
          have P10 : Hid (Lt (· = R) w9 w10) := Lib.hid (by rw [hw10]; exact Lt.put (ex := (· = R)) (p := ⟨R, 2, none⟩) (Lt.of (Below.refl _ _)) (Or.inl rfl) _)
          have O10 := Lib.hid (O9.out.lt P10.out (fun i e => by subst e; exact ⟨by omega, fun h => by have := OK0.out _ h; omega⟩))
          have OL10 := OL.out
          have D10 := Lib.hid (next9 K.out X10.out (fun k e => by rcases e with e | e; omega; have := OL10 k e; omega))
          have E10 := Lib.hid (X10.out.has EQ5.out (fun e => by rcases e with e | e; omega; have := OL10 _ e; omega))
          have S10 := Lib.hid (SQ5.out.frame (w' := w10) fun b o hb => X10.out.cell (okx1 OK0.out (show w.heap.size ≤ Wb.heap.size by omega) (show R ≤ Wb.heap.size by omega) b hb) (fun e => by have h1 := okx1 OK0.out (show w.heap.size ≤ R by omega) (Nat.le_refl R) b hb; rcases e with e | e; omega; have := OL10 _ e; omega))
          clear hw10 f1 f2 f3 f4 f5 f6 f7 OL10
          refine hK.out _ _ (Hb.out _ X10.out) (fun hHeld => ?_)
          clear hK K'
          (try simp only [List.getElem_toArray, List.getElem_cons_zero, List.getElem_cons_succ, Act.put, List.setIfInBounds_toArray, List.set_cons_zero, List.set_cons_succ])
          refine wpAnyH_done (by kernel_rfl) ?_ _
          go_wp2_with fail
          go_roundw
          case rel => exact ⟨k + 1, L ++ [((xb, φ x.2), .slice q7 ul d7)], _, by omega, by go_num, Lib.hid (HM1.out _), O10, HR10, E10, S10, D10⟩
          case measure => simp [intOf]; omega
        · skip
          go_simp
          (try go_split_ands)
          obtain ⟨w27, hw7⟩ : ∃ z, z = w24.alloc (.cells #[.bool xb, .string un, .slice q7 ul d7] 67) := ⟨_, rfl⟩
          rw [← hw7]
          have J7 : Hid (Below w24.heap.size w24 w27) := Lib.hid (by rw [hw7]; exact below_alloc _ _)
          have HB7 : Hid (Has w27 w24.heap.size #[.bool xb, .string un, .slice q7 ul d7]) := Lib.hid (by rw [hw7]; exact Has.new _ _ _)
          have hz7 : w24.heap.size + 1 ≤ w27.heap.size := by rw [hw7]; simp
          clear hw7
          have X7 := Lib.hid (Lt.below X4.out J7.out)
          have K7 := Lib.hid (next0 K4.out J7.out)
          have HR7 := Lib.hid (HR4.out.step0 J7.out)
          have O7 := Lib.hid (O4.out.below J7.out)
          have S7 := Lib.hid (S4.out.frame (w' := w27) fun b o hb => J7.out.cell (p := ⟨b, o, none⟩) (okx1 OK0.out (show w.heap.size ≤ w24.heap.size by omega) (show hi ≤ w24.heap.size by omega) b hb))
          refine hK.out _ _ (Hb.out _ X7.out) (fun hHeld => ?_)
          clear hK K'
          (try simp only [List.getElem_toArray, List.getElem_cons_zero, List.getElem_cons_succ, Act.put, List.setIfInBounds_toArray, List.set_cons_zero, List.set_cons_succ])
          refine wpAnyH_ready (rs := [1]) (by kernel_rfl) (by simp) ?_
          refine (AllReadyH.cons rfl (fun K' hK => ?_) AllReadyH.nil)
          obtain ⟨f1, f2, f3, f4, f5, f6, f7⟩ := UnpP.has3 HR7.out
          go_simp
          (try go_split_ands)
          clear f1 f2 f3 f4 f5 f6 f7
          refine hK.out _ _ (Hb.out _ X7.out) (fun hHeld => ?_)
          clear hK K'
          (try simp only [List.getElem_toArray, List.getElem_cons_zero, List.getElem_cons_succ, Act.put, List.setIfInBounds_toArray, List.set_cons_zero, List.set_cons_succ])
          refine wpAnyH_ready (rs := [10]) (by kernel_rfl) (by simp) ?_
          refine (AllReadyH.cons rfl (fun K' hK => ?_) AllReadyH.nil)
          refine step_append_lies _ rfl _ _ 32 rfl (R + 1) 67 i0 (.agg #[.bool false, .string ⟨#[]⟩, .slice none 0 0]) 3 48 Tryz.underlying32 hi0 hi1 hi2 hi3 rfl (by decide) (.slice va L.length vc) L.length (KL.flat L) rfl O7.out.1 ⟨w24.heap.size, 0, none⟩ 1 1 [.bool xb, .string un, .slice q7 ul d7] rfl rfl (World.news_of_block HB7.out.choose_spec) (one_L _ _ _ _ _) (by decide) A1 A2 (show R + 1 ≤ w27.heap.size by omega) _ rfl ?_
          intro g9 c9 w9 hown hgrow hat hlt9
          have OL9 := OL.out
          have X9 := Lib.hid (Lt.grown X7.out hgrow (fun k e => Or.inl (Or.inr e)))
          have L9 : Hid (Lt (fun b => (Value.slice va L.length vc).ownBlock = some b) w27 w9) := Lib.hid (Lt.grown (Lt.of (Below.refl _ _)) hgrow (fun k e => Or.inl e))
          have HR9 := Lib.hid (L9.out.has HR7.out (fun e => by have := OL9 _ e; omega))
          have O9 := Lib.hid (OwnX.add (K := KL) (x := ((xb, φ x.2), Value.slice q7 ul d7)) O7.out (AD.out _ _ _ S7.out N7.out) (okx2 OK0.out (show w.heap.size ≤ R by omega) (show R + 1 ≤ lo by omega) (show w.heap.size ≤ w27.heap.size by omega) (show hi ≤ w27.heap.size by omega) (fun k e => by have := OL9 k e; omega)) (AF.out _ _ _ _ hown) L9.out (hat.imp id fun h => Nat.le_of_eq h.symm))
          have hz9 : w27.heap.size ≤ w9.heap.size := L9.out.size
          clear hown hgrow OL9
          refine hK.out _ _ (Hb.out _ X9.out) (fun hHeld => ?_)
          clear hK K'
          (try simp only [List.getElem_toArray, List.getElem_cons_zero, List.getElem_cons_succ, Act.put, List.setIfInBounds_toArray, List.set_cons_zero, List.set_cons_succ])
          refine wpAnyH_take (i := 11) (v := ?_) rfl (by kernel_rfl) (by kernel_rfl) (by kernel_rfl) (fun _ _ _ h => h) (Or.inl ⟨by rfl, ?_⟩) (by assumption) ?_
          rotate_left
          · intro w' hSw; (try dsimp only at hSw); (try simp only [List.getElem_toArray, List.getElem_cons_zero, List.getElem_cons_succ]); go_simp; try with_reducible rfl
          (try simp only [List.getElem_toArray, List.getElem_cons_zero, List.getElem_cons_succ, Act.put, List.setIfInBounds_toArray, List.set_cons_zero, List.set_cons_succ])
          refine wpAnyH_ready (rs := [12]) (by kernel_rfl) (by simp) ?_
          refine (AllReadyH.cons rfl (fun K' hK => ?_) AllReadyH.nil)
          obtain ⟨f1, f2, f3, f4, f5, f6, f7⟩ := UnpP.has3 HR9.out
          go_simp
          (try go_split_ands)
          obtain ⟨w10, hw10⟩ : ∃ z, z = w9.setCell ⟨R, 2, none⟩ (.slice (some ⟨g9, 0, none⟩) (L.length + 1) c9) := ⟨_, rfl⟩
          rw [← hw10]
          have X10 : Hid (Lt (fun b => b = R ∨ (Value.slice va L.length vc).ownBlock = some b) Wb w10) := Lib.hid (by rw [hw10]; exact X9.out.put (Or.inl (Or.inl rfl)) _)
          have HR10 : Hid (Has w10 R #[.string hu, .slice q hl d, .slice (some ⟨g9, 0, none⟩) (L.length + 1) c9]) := Lib.hid (by rw [hw10]; exact HR9.out.set 2 _)
          have P10 : Hid (Lt (· = R) w9 w10) := Lib.hid (by rw [hw10]; exact Lt.put (ex := (· = R)) (p := ⟨R, 2, none⟩) (Lt.of (Below.refl _ _)) (Or.inl rfl) _)
          have O10 := Lib.hid (O9.out.lt P10.out (fun i e => by subst e; exact ⟨by omega, fun h => by have := OK0.out _ h; omega⟩))
          have OL10 := OL.out
          have D10 := Lib.hid (next9 K.out X10.out (fun k e => by rcases e with e | e; omega; have := OL10 k e; omega))
          have E10 := Lib.hid (X10.out.has EQ5.out (fun e => by rcases e with e | e; omega; have := OL10 _ e; omega))
          have S10 := Lib.hid (SQ5.out.frame (w' := w10) fun b o hb => X10.out.cell (okx1 OK0.out (show w.heap.size ≤ Wb.heap.size by omega) (show R ≤ Wb.heap.size by omega) b hb) (fun e => by have h1 := okx1 OK0.out (show w.heap.size ≤ R by omega) (Nat.le_refl R) b hb; rcases e with e | e; omega; have := OL10 _ e; omega))
          clear hw10 f1 f2 f3 f4 f5 f6 f7 OL10
          refine hK.out _ _ (Hb.out _ X10.out) (fun hHeld => ?_)
          clear hK K'
          (try simp only [List.getElem_toArray, List.getElem_cons_zero, List.getElem_cons_succ, Act.put, List.setIfInBounds_toArray, List.set_cons_zero, List.set_cons_succ])
          refine wpAnyH_done (by kernel_rfl) ?_ _
          go_wp2_with fail
          go_roundw
          case rel => exact ⟨k + 1, L ++ [((xb, φ x.2), .slice q7 ul d7)], _, by omega, by go_num, Lib.hid (HM1.out _), O10, HR10, E10, S10, D10⟩
          case measure => simp [intOf]; omega
    · obtain rfl : k = n := by omega
      have MM : Hid (L.map (·.1) = atomsL φ l) := Lib.hid (by rw [hM.out, AE.out])
      have RW := hO.out.row
      have LI : Hid (LIn (fun b => ok0 b ∨ (R + 1 ≤ b ∧ b < wr.heap.size)) wr (atomsL φ l) (.slice va L.length vc)) := Lib.hid ⟨L, MM.out, RW⟩
      obtain ⟨f1, f2, f3, f4, f5, f6, f7⟩ := UnpP.has3 hRb.out
      obtain ⟨g1, g2, g3, g4, g5, g6, g7⟩ := UnpP.has3 hE.out
      obtain ⟨W9, hW9⟩ : ∃ z, z = ((wr.setCell ⟨w.heap.size + 1, 0, none⟩ (.string hu)).setCell ⟨w.heap.size + 1, 1, none⟩ (.slice q hl d)).setCell ⟨w.heap.size + 1, 2, none⟩ (.slice va L.length vc) := ⟨_, rfl⟩
      have R6 := put3 hE.out (.string hu) (.slice q hl d) (.slice va L.length vc)
      obtain ⟨r1, r2, r3⟩ := UniA.three R6
      have P9 : Hid (Lt (· = w.heap.size + 1) wr W9) := Lib.hid (by rw [hW9]; exact Lt.put (ex := (· = w.heap.size + 1)) (p := ⟨w.heap.size + 1, 2, none⟩) (Lt.put (ex := (· = w.heap.size + 1)) (p := ⟨w.heap.size + 1, 1, none⟩) (Lt.put (ex := (· = w.heap.size + 1)) (p := ⟨w.heap.size + 1, 0, none⟩) (Lt.of (Below.refl _ _)) (Or.inl rfl) _) (Or.inl rfl) _) (Or.inl rfl) _)
      have D9 := Lib.hid (next9 hD.out P9.out (fun i e => by subst e; omega))
      have hz9 := P9.out.size
      have S9 := Lib.hid (hS.out.frame (w' := W9) fun b o hb => P9.out.cell (okx1 OK0.out hD.out.size (show R ≤ wr.heap.size by omega) b hb) (fun e => by rcases hb with hb | hb; have := OK0.out b hb; omega; omega))
      have L9 := Lib.hid (LI.out.keep (w' := W9) fun b o hb => P9.out.cell (okx1 OK0.out hD.out.size (Nat.le_refl _) b hb) (fun e => by rcases hb with hb | hb; have := OK0.out b hb; omega; omega))
      have X9 : Hid (RuX ok0 u (atomsL φ l) w (.returned (.agg #[.string hu, .slice q hl d, .slice va L.length vc])) W9) := Lib.hid ⟨q, d, _, by rw [HHU.out, HHL.out], by rw [HHL.out]; exact S9.out.weaken fun b hb => hb.imp id fun h => ⟨by omega, by omega⟩, L9.out.wide fun b hb => hb.imp id fun h => ⟨by omega, by omega⟩, by rw [HHU.out]; exact NU.out, D9.out⟩
      have HW9 := Lib.hid hW9
      clear R6 RW LI MM S9 L9 P9 D9 hz9 hW9
      go_wp2_with fail
      refine bodyPost_ret (v := .agg #[.string hu, .slice q hl d, .slice va L.length vc]) (by simp [results, Tryz.results48, go_sem, r1, r2, r3]) rfl ?_
      rw [← HW9.out]
      exact X9.out
end UnqB
end Go.Proofs.YtihbnonbhelbmaaGreatDoor
/- The variables of any rule, of the code. Conditions: at most a thousand literals, at most a million parts. -/
namespace Go.Proofs.YtihbnonbhelbmaaGreatDoor
open Go Go.RowKit
namespace UnrA
open LexM TermM TermI Kit TermN TermU TermL TermE TermF UniK UniM UniD UniE UnmE UnmF LigG LigU
/-- The atoms of a rule. -/
def atsL (h : Tm) (l : List Lt) : List Tm := h :: l.map (·.2)
theorem ats_next {h : Tm} {l : List Lt} {k : Nat} {x : Lt} (hx : l[k]? = some x) : atsL h (l.take (k + 1)) = atsL h (l.take k) ++ [x.2] := by
  unfold atsL
  rw [take_get l k x hx, List.map_append]
  rfl
set_option maxRecDepth 100000 in
set_option maxHeartbeats 3200000 in
theorem rvars_any (h : Tm) (l : List Lt) (w : World) (hv lv : Value) (hs : SlIn (· < w.heap.size) w h.args hv) (hl : LIn (· < w.heap.size) w l lv) (hn : h.nm.size ≤ maxLen) (hll : l.length ≤ 1000) (hz : sizeL (atsL h l) ≤ 1000000) :
    Calls Tryz.prog 62 #[.agg #[.string h.nm, hv, lv]] w (Vrs (varsOf (leavesL (atsL h l))) w) := by
  obtain ⟨p, c, rfl⟩ := hs.form
  obtain ⟨lp, lc, rfl⟩ := hl.form
  obtain ⟨i0, hi, hz0, hz1, hz2⟩ := info_parts Tryz.info28
  obtain ⟨W1, hW1⟩ : ∃ W1, W1 = w.alloc (.cells #[.string h.nm, .slice p h.args.length c, .slice lp l.length lc] 34) := ⟨_, rfl⟩
  have R1 : Hid (Has W1 w.heap.size #[.string h.nm, .slice p h.args.length c, .slice lp l.length lc]) := Lib.hid (by rw [hW1]; exact Has.new _ _ _)
  have K1 : Hid (Below w.heap.size w W1) := Lib.hid (by rw [hW1]; exact below_alloc _ _)
  obtain ⟨W2, hW2⟩ : ∃ W2, W2 = W1.alloc (.cells #[.string h.nm, .slice p h.args.length c] 27) := ⟨_, rfl⟩
  have D2 : Hid (Below W1.heap.size W1 W2) := Lib.hid (by rw [hW2]; exact below_alloc _ _)
  have R12 : Hid (Has W2 w.heap.size #[.string h.nm, .slice p h.args.length c, .slice lp l.length lc]) := Lib.hid (by rw [hW2]; exact R1.out.alloc _)
  have hs1 : w.heap.size + 1 = W1.heap.size := by rw [hW1]; simp
  have hs2 : W1.heap.size + 1 = W2.heap.size := by rw [hW2]; simp
  have O2 : Hid (OwnA (· < w.heap.size) W1.heap.size W2 [(h, .slice p h.args.length c)] (.slice (some ⟨W1.heap.size, 0, none⟩) 1 1)) := Lib.hid (by
    refine ⟨⟨rfl, Or.inr ⟨W1.heap.size, 1, #[.string h.nm, .slice p h.args.length c], rfl, Nat.le_refl _, by rw [hW2]; exact heap_alloc_new _ _, Nat.le_refl _, by unfold maxLen; omega, rfl, rfl⟩⟩, (· < w.heap.size), fun b hb => ⟨Or.inl hb, by omega, fun e => ?_⟩, fun x hx => ?_⟩
    · have e' : W1.heap.size = b := by simpa [Value.ownBlock] using e
      omega
    · obtain rfl := List.mem_singleton.1 hx
      exact ⟨hs.deep (next0 K1.out D2.out) (Nat.le_refl _), hn⟩)
  have CV := Lib.hid (fun (w' : World) (M : List (Tm × Value)) (v : Value) (O : OwnA (· < w.heap.size) W1.heap.size w' M v) (e : M.map (·.1) = atsL h l) (hw : w.heap.size ≤ w'.heap.size) => show Calls Tryz.prog 54 #[v] w' (Vrs (varsOf (leavesL (atsL h l))) w') from by
    have S := O.slin
    have hb := O.1.lt
    rw [e] at S
    exact vars_any (atsL h l) w'.heap.size w' v (Nat.le_refl _) (S.weaken fun b hb => by rcases hb with hb | hb <;> omega) hz)
  have LL := Lib.hid (fun w' (k : Below w.heap.size w w') => hl.keep (w' := w') fun b o hb => k.cell (p := ⟨b, o, none⟩) hb)
  have AT := Lib.hid (fun k x (hx : l[k]? = some x) => ats_next (h := h) hx)
  have AE : Hid (atsL h (l.take l.length) = atsL h l) := Lib.hid (by rw [List.take_length])
  have AL : Hid (∀ k, k ≤ l.length → (atsL h (l.take k)).length = k + 1) := Lib.hid (fun k hk => by unfold atsL; rw [List.length_cons, List.length_map, List.length_take]; omega)
  have A0 : Hid ([(h, Value.slice p h.args.length c)].map (·.1) = atsL h (l.take 0)) := Lib.hid rfl
  clear hs hl hn hz
  generalize varsOf (leavesL (atsL h l)) = vz at *
  unfold Vrs at CV ⊢
  generalize hnl : l.length = n at *
  have HNL := Lib.hid hnl
  clear hnl
  obtain ⟨y1, y2, y3⟩ := UniA.three R1.out
  go_enter Tryz.func62, Tryz.ntmps62
  go_upto_region 1 with fail
  rw [← hW1]
  clear hW1
  go_upto_region 2 with fail
  rw [← hW2]
  clear hW2 y1 y2 y3
  obtain ⟨y1, y2, y3⟩ := UniA.three R12.out
  go_wp2_with fail
  go_loopw [3, 12] (fun v i wr => ∃ (k : Nat) (M : List (Tm × Value)), k ≤ n ∧ i = .int .i64 k ∧ Hid (M.map (·.1) = atsL h (l.take k)) ∧ Hid (OwnA (· < w.heap.size) W1.heap.size wr M v) ∧ Hid (Below W1.heap.size W1 wr)) (fun _ i _ => n - (intOf i).toNat)
  case atStart => exact ⟨0, _, Nat.zero_le _, rfl, A0, O2, D2⟩
  case round =>
    obtain ⟨k, M, hk, rfl, hM, hO, hD⟩ := hrel
    obtain ⟨va, vc, rfl⟩ := hO.out.form
    have hMl : M.length = k + 1 := by
      have := congrArg List.length hM.out
      rw [List.length_map, AL.out k hk] at this
      exact this
    by_cases hlt : k < n
    · obtain ⟨x, g, o, q5, d5, hx, rfl, hg, e1, e2, e3, hxs, hxn⟩ := lin_row (LL.out wr (next0 K1.out hD.out)) k (by rw [HNL.out]; exact hlt)
      have HM1 : Hid (∀ z : Value, (M ++ [(x.2, z)]).map (·.1) = atsL h (l.take (k + 1))) := Lib.hid (fun z => by rw [AT.out k x hx, List.map_append, hM.out]; rfl)
      obtain ⟨Wb, hWb⟩ : ∃ z, z = wr.alloc (.cells #[.bool x.1, .string x.2.nm, .slice q5 x.2.args.length d5] 67) := ⟨_, rfl⟩
      obtain ⟨bx, hbx⟩ : ∃ m, m = wr.heap.size := ⟨_, rfl⟩
      have KB : Hid (Below wr.heap.size wr Wb) := Lib.hid (by rw [hWb]; exact below_alloc _ _)
      have HX : Hid (Has Wb bx #[.bool x.1, .string x.2.nm, .slice q5 x.2.args.length d5]) := Lib.hid (by rw [hWb, hbx]; exact Has.new _ _ _)
      have OB := Lib.hid (hO.out.below KB.out)
      have DB := Lib.hid (next0 hD.out KB.out)
      have SB := Lib.hid (hxs.deep KB.out (next0 K1.out hD.out).size)
      have HV := Lib.hid OB.out.1.lt
      have hzb : W1.heap.size ≤ Wb.heap.size := DB.out.size
      have AD := Lib.hid (fun (w3 : World) (ob : Obj) (g cap : Nat) (hown : w3.ownsRow W1.heap.size 27 2 (.slice (some ⟨g, 0, none⟩) (M.length + 1) cap) (M.length + 1) (flatL M ++ [.string x.2.nm, .slice q5 x.2.args.length d5])) (hgrow : (Wb.alloc ob).grownBy w3 (Value.slice va M.length vc).ownBlock) (hat : (Value.slice va M.length vc).ownBlock = some g ∨ g = Wb.heap.size + 1) =>
        OB.out.add (SB.out) hxn (fun b hb => ⟨Or.inl hb, by omega, fun e => by have := HV.out b e; omega⟩) hown hgrow hat)
      have A1 : M.length + 1 ≤ maxLen := by unfold maxLen; omega
      have A2 : (M.length + 1) * 40 ≤ 140737488355328 := by omega
      obtain ⟨z1, z2, z3, z4, z5, z6, z7⟩ := UnpP.has3 HX.out
      have e4 : wr.cell? ⟨g, o + k * 3 + 2, none⟩ = some (.slice q5 x.2.args.length d5) := e3
      clear hx hxs hxn KB HX e3
      generalize x.1 = xb at *
      generalize x.2.nm = xn at *
      generalize x.2.args.length = xl at *
      have A4 : W1.heap.size ≤ (Wb.alloc (.cells #[.string xn, .slice q5 xl d5] 27)).heap.size := by simp; omega
      go_upto_region 5 with fail
      rw [← hWb, ← hbx]
      clear hWb hbx e1 e2 e4
      go_wp2_with (at_builtin; refine wpList_append_lies _ rfl _ _ 25 rfl W1.heap.size 27 i0 (.agg #[.string ⟨#[]⟩, .slice none 0 0]) 2 40 Tryz.underlying25 hi hz0 hz1 hz2 rfl (by decide) (.slice va M.length vc) M.length (flatL M) rfl (OB.out.1.alloc _) ⟨Wb.heap.size, 0, none⟩ 1 1 [.string xn, .slice q5 xl d5] rfl rfl (news2 _ _ _ _) (one2 _ _ _ _) (by decide) A1 A2 A4 (Wb.heap.size + 1) (by simp) ?_; intro g5 cap5 w5 hown hgrow hat hlt5)
      have O3a := AD.out _ _ _ _ hown hgrow hat
      rw [hMl] at O3a
      have O3 := Lib.hid O3a
      have D3 := Lib.hid ((DB.out.alloc (by exact DB.out.size) _).grown hgrow (by simp; omega) (fun k hk => (HV.out k hk).1))
      clear hown hgrow hat O3a
      go_wp2_with fail
      go_roundw
      case rel => exact ⟨k + 1, _, by omega, by go_num, HM1.out _, O3, D3⟩
      case measure => simp [intOf]; omega
    · obtain rfl : k = n := by omega
      rw [AE.out] at hM
      have CC := Lib.hid (CV.out wr M _ hO.out hM.out (next0 K1.out hD.out).size)
      rw [hMl] at CC
      have DW := Lib.hid (next0 K1.out hD.out)
      have hsw : w.heap.size ≤ wr.heap.size := DW.out.size
      go_wp2_with fail
      refine CC.out.mono ?_
      rintro e w3 ⟨v', base, rfl, h1, h2, h3⟩
      have H1 := Lib.hid h1
      have K3 := Lib.hid (next0 DW.out h3)
      clear h1 h3
      go_wp2_with fail
      go_ret
      exact ⟨_, base, rfl, H1.out, by omega, K3.out⟩
end UnrA
end Go.Proofs.YtihbnonbhelbmaaGreatDoor
/- Rename of the code, for any rule. Conditions: at most a thousand literals, a million parts; strconv's table of powers of ten is as laid. -/
namespace Go.Proofs.YtihbnonbhelbmaaGreatDoor
open Go Go.RowKit Go.Maps Go.WideMaps
namespace UnrB
open LexM TermM TermI Kit TermN TermU TermL TermE TermF UniK UniM UniA UniC UniD UniE UnmA UnmB UnmC UnmD UnmE UnmF UnmG UnmH UnmI LigG LigU LigY UnqA UnqB UnrA
abbrev Tab (w : World) : Prop := Lib.TabIs Tryz.prog w "internal/strconv.uint64pow10" .u64 Lib.pow10Tab
theorem tab_below {w w' : World} (h : Tab w) (hb : Below w.heap.size w w') : Tab w' := Lib.tabBelow_of_tabIs h w' hb
theorem below_grow (w : World) (k : Nat) (os : Array Obj) : Below w.heap.size w (Sort.grow (w.drewN k) os) := by
  have hd := below_drewN (Below.refl w.heap.size w) k
  refine ⟨hd.os, hd.tape, hd.output, ?_, fun g hg => ?_⟩
  · rw [Sort.size_grow]; exact Nat.le_trans hd.size (Nat.le_add_right _ _)
  · rw [Sort.heap_grow_old _ _ (by exact hg)]; exact hd.block g hg
theorem itoa_any (n : Int) (h0 : -9223372036854775808 ≤ n) (h1 : n ≤ 9223372036854775807) (w : World) (ht : Tab w) :
    Calls Tryz.prog 63 #[.int .i64 n] w fun e w' => e = .returned (.string ⟨(Lib.itoa n).toArray⟩) ∧ Below w.heap.size w w' :=
  (Tryz.strconv_Itoa n h0 h1 w ht).mono fun _ _ ⟨he, k, os, hw⟩ => ⟨he, by rw [hw]; exact below_grow w k os⟩
theorem size_at {h : Tm} {l : List Lt} {t : Tm} (ht : t = h ∨ ∃ x ∈ l, x.2 = t) (hz : sizeL (atsL h l) ≤ 1000000) : sizeT t ≤ 1000000 := by
  have : t ∈ atsL h l := by
    unfold atsL
    rcases ht with rfl | ⟨x, hx, rfl⟩
    · exact List.mem_cons_self
    · exact List.mem_cons_of_mem _ (List.mem_map.2 ⟨x, hx, rfl⟩)
  have := size_mem this
  omega
/-- replaceInRule with the closure of Rename. -/
theorem rir_rename (g : Nat) (φ : ByteArray → Tm) (h : Tm) (l : List Lt) (w : World) (hv lv : Value) (hs : SlIn (· < w.heap.size) w h.args hv) (hl : LIn (· < w.heap.size) w l lv) (hn : h.nm.size ≤ maxLen) (hll : l.length ≤ 1000) (hz : sizeL (atsL h l) ≤ 1000000)
    (HF : ∀ (w' : World) (n : ByteArray), Below w.heap.size w w' → n.size ≤ maxLen → Calls Tryz.prog 64 #[.string n, .pointer (some ⟨g, 0, none⟩)] w' (RepR (φ n) w')) :
    Calls Tryz.prog 48 #[.agg #[.string h.nm, hv, lv], .func (.func 64) #[] #[.pointer (some ⟨g, 0, none⟩)]] w (RuX (fun _ => False) (repT φ h) (atomsL (repT φ) l) w) :=
  rir_any _ (fun _ => False) (repT φ) h l w hv lv hs hl hn hll (fun _ h => h.elim) fun t w' q ht k hq hn9 =>
    (replace_any g φ t w.heap.size w' q k.size hq hn9 (size_at ht hz) (fun w2 n2 k2 hn2 => HF w2 n2 (next0 k k2) hn2)).mono fun _ _ ⟨q2, d2, he, h1, h2, h3⟩ => ⟨q2, d2, he, h1.weaken fun _ hb => Or.inr hb, h2, h3⟩
end UnrB
end Go.Proofs.YtihbnonbhelbmaaGreatDoor
/- Rename of the code, for any rule whose new names are all variables. Conditions: at most a thousand literals, a million parts; strconv's table of powers of ten is as laid. Made by genren.py. -/
namespace Go.Proofs.YtihbnonbhelbmaaGreatDoor
open Go Go.RowKit Go.Maps Go.WideMaps
namespace UnrC
open LexM TermM TermI Kit TermN TermU TermL TermE TermF UniK UniM UniA UniC UniD UniE UnmA UnmB UnmC UnmD UnmE UnmF UnmG UnmH UnmI LigG LigU LigY UnqA UnqB UnrA UnrB
theorem itoa_pos (k : Nat) : Lib.itoa ((k : Int) + 1) = Lib.decDigits (k + 1) := Lib.itoa_nonneg (k + 1)
/-- What Rename leaves where all new names are variables. -/
def RnX (u : Tm) (l : List Lt) (w : World) (e : Ending) (w' : World) : Prop :=
  ∃ (q : Option Addr) (d : Nat) (v : Value), e = .returned (.tuple #[.agg #[.string u.nm, .slice q u.args.length d, v], .bool true]) ∧ SlIn (fun b => w.heap.size ≤ b ∧ b < w'.heap.size) w' u.args (.slice q u.args.length d) ∧ LIn (fun b => w.heap.size ≤ b ∧ b < w'.heap.size) w' l v ∧ u.nm.size ≤ maxLen ∧ Below w.heap.size w w'
set_option maxRecDepth 100000 in
set_option maxHeartbeats 1600000 in
theorem rename_yes (h : Tm) (l : List Lt) (pre : ByteArray) (w : World) (hv lv : Value) (hT : Tab w) (hs : SlIn (· < w.heap.size) w h.args hv) (hl0 : LIn (· < w.heap.size) w l lv) (hn : h.nm.size ≤ maxLen) (hll : l.length ≤ 1000) (hz : sizeL (atsL h l) ≤ 1000000)
    (hl : (varsOf (leavesL (atsL h l))).length ≤ 1000000) (hN : ∀ k, k < (varsOf (leavesL (atsL h l))).length → varB (newName pre k) = true) :
    Calls Tryz.prog 33 #[.agg #[.string h.nm, hv, lv], .string pre] w (RnX (repT (renT (namesK (newName pre) (varsOf (leavesL (atsL h l))) (varsOf (leavesL (atsL h l))).length)) h) (atomsL (repT (renT (namesK (newName pre) (varsOf (leavesL (atsL h l))) (varsOf (leavesL (atsL h l))).length))) l) w) := by
  obtain ⟨p, c, rfl⟩ := hs.form
  obtain ⟨lp, lc, rfl⟩ := hl0.form
  obtain ⟨W2, hW2⟩ : ∃ W2, W2 = (w.alloc (.cells #[.string h.nm, .slice p h.args.length c, .slice lp l.length lc] 34)).alloc (.cells #[.string ⟨#[]⟩, .slice none 0 0, .slice none 0 0] 34) := ⟨_, rfl⟩
  have B2 : Hid (Below w.heap.size w W2) := Lib.hid (by rw [hW2]; exact next0 (below_alloc _ _) (below_alloc _ _))
  have H2 : Hid (Has W2 w.heap.size #[.string h.nm, .slice p h.args.length c, .slice lp l.length lc]) := Lib.hid (by rw [hW2]; exact (Has.new w _ _).alloc _)
  have E2 : Hid (Has W2 (w.heap.size + 1) #[.string ⟨#[]⟩, .slice none 0 0, .slice none 0 0]) := Lib.hid (by rw [hW2]; exact Has.new1 w _ _ _)
  have hs2 : w.heap.size + 2 ≤ W2.heap.size := by rw [hW2]; simp
  obtain ⟨W3, hW3⟩ : ∃ W3, W3 = (W2.alloc (.map #[] 0)).alloc (.cells #[.map (some W2.heap.size)] 80) := ⟨_, rfl⟩
  have B3 : Hid (Below W2.heap.size W2 W3) := Lib.hid (by rw [hW3]; exact next0 (below_alloc _ _) (below_alloc _ _))
  have M3 : Hid (W3.ownsMap Tryz.prog 9 heldE W2.heap.size 0 (DataOf (namesV (namesK (newName pre) (varsOf (leavesL (atsL h l))) 0)))) := Lib.hid (by rw [hW3]; exact (World.ownsMap_made _ _ _ _).alloc _)
  have N3 : Hid (Has W3 (W2.heap.size + 1) #[.map (some W2.heap.size)]) := Lib.hid (by rw [hW3]; exact Has.new1 W2 _ _ _)
  have hs3 : W2.heap.size + 2 ≤ W3.heap.size := by rw [hW3]; simp
  have D3 := Lib.hid (next0 B2.out B3.out)
  have HTB := Lib.hid (fun w' (k : Below w.heap.size w w') => tab_below hT k)
  have LW := Lib.hid (fun w' (k : Below w.heap.size w w') => (hl0.keep (w' := w') fun b o hb => k.cell (p := ⟨b, o, none⟩) hb).wide (ok' := (· < w'.heap.size)) fun b hb => Nat.lt_of_lt_of_le hb k.size)
  have SW := Lib.hid (fun w' (k : Below w.heap.size w w') => (hs.deep k (Nat.le_refl _)).weaken (ok' := (· < w'.heap.size)) fun b hb => Nat.lt_of_lt_of_le hb k.size)
  have CV := Lib.hid (rvars_any h l W3 _ _ (SW.out W3 D3.out) (LW.out W3 D3.out) hn hll hz)
  have CB := Lib.hid (fun NL w' (k : Below w.heap.size w w') (HF : ∀ (w'' : World) (n : ByteArray), Below w'.heap.size w' w'' → n.size ≤ maxLen → Calls Tryz.prog 64 #[.string n, .pointer (some ⟨W2.heap.size + 1, 0, none⟩)] w'' (RepR (renT NL n) w'')) => rir_rename (W2.heap.size + 1) (renT NL) h l w' _ _ (SW.out w' k) (LW.out w' k) hn hll hz HF)
  have hmm := @run_makeMap Tryz.prog
  have hmf := @hmf0
  unfold Vrs at CV
  have VV := Lib.hid (fun v (h9 : v ∈ varsOf (leavesL (atsL h l))) => var_ok (vars_var v h9))
  clear hs hn hz hl0 LW SW hT
  generalize varsOf (leavesL (atsL h l)) = vs at *
  generalize hm : vs.length = m at *
  have HM := Lib.hid hm
  have NX := Lib.hid (fun k v (h : vs[k]? = some v) => names_next (f := newName pre) h)
  have NM := Lib.hid (fun x (h : x ∈ namesK (newName pre) vs m) => show x.2.size ≤ maxLen from by
    obtain ⟨j, h1, h2, h3⟩ := names_mem h
    rw [h3]
    have := var_ok (hN j h1)
    unfold maxLen
    omega)
  have VN := Lib.hid hN
  have VL := Lib.hid (fun k (h : k < m) => var_ok (hN k h))
  clear hm hN
  have CB1 := Lib.hid (CB.out (namesK (newName pre) vs m))
  generalize hNL : namesK (newName pre) vs = NL at *
  clear hNL
  generalize repT (renT (NL m)) h = u at *
  generalize atomsL (repT (renT (NL m))) l = ul at *
  unfold RuX at CB1
  generalize l.length = ln at *
  generalize h.nm = hnm at *
  generalize h.args.length = hl9 at *
  clear CB
  have k1 := H2.out.cell 0
  obtain ⟨y1, y2, y3⟩ := UniA.three (H2.out.step0 B3.out)
  go_enter Tryz.func33, Tryz.ntmps33
  go_upto_region 1 with fail
  rw [← hW2]
  clear hW2
  go_upto_region 2 with fail
  rw [← hW3]
  clear hW3 hmm k1
  go_wp2_with fail
  refine CV.out.mono ?_
  rintro e w4 ⟨v4, base4, rfl, h1, h2, h3⟩
  obtain ⟨a9, c9, rfl⟩ := row_form h1
  have O4 := Lib.hid h1
  have D4 := Lib.hid (next0 D3.out h3)
  have M4 := Lib.hid (M3.out.kept (row := none) ⟨h3.os, h3.tape, h3.output, h3.size, fun i hi _ => h3.block i hi⟩ (by simp))
  have N4 := Lib.hid (N3.out.step0 h3)
  have H4 := Lib.hid ((H2.out.step0 B3.out).step0 h3)
  have E4 := Lib.hid ((E2.out.step0 B3.out).step0 h3)
  have hs4 : W3.heap.size ≤ w4.heap.size := h3.size
  clear h1 h3 y1 y2 y3 M3 N3 CV
  go_wp2_with fail
  go_loopw [14] (fun i wr => ∃ k : Nat, k ≤ m ∧ i = .int .i64 k ∧ Hid (wr.ownsMap Tryz.prog 9 heldE W2.heap.size k (DataOf (namesV (NL k)))) ∧ Hid (Ch W2.heap.size w4 wr)) (fun i _ => m - (intOf i).toNat)
  case atStart => exact ⟨0, Nat.zero_le _, rfl, M4, Lib.hid (Ch.refl _ _)⟩
  case round =>
    obtain ⟨k, hk, rfl, hM, hF⟩ := hrel
    by_cases hlt : k < m
    · obtain ⟨v0, hv0⟩ : ∃ v0, vs[k]? = some v0 := ⟨vs[k]'(by rw [HM.out]; exact hlt), by simp⟩
      have OR : wr.ownsRow base4 9 1 (.slice a9 m c9) vs.length (strs vs) := by
        rw [HM.out]
        exact O4.out.kept hF.out (Or.inr (fun e => by have := (O4.out.lt _ e).1; omega))
      obtain ⟨g, cap, hav, hcell, hgb, hgl⟩ := row_str OR hv0
      injection hav with hav1 hav3 hav2
      subst hav1 hav2
      clear hav3
      have CI : Hid (∀ w', Tab w' → Calls Tryz.prog 63 #[.int .i64 ((k : Int) + 1)] w' fun e w'' => e = .returned (.string ⟨(Lib.decDigits (k + 1)).toArray⟩) ∧ Below w'.heap.size w' w'') := Lib.hid (fun w' ht => by
        have := itoa_any ((k : Int) + 1) (by omega) (by omega) w' ht
        rw [itoa_pos k] at this
        exact this)
      have TB := Lib.hid (HTB.out wr (D4.out.trans ((hF.out.toBelow (Nat.le_refl _) (by omega)).mono (by omega))))
      have hv16 : (pre ++ ⟨(Lib.decDigits (k + 1)).toArray⟩).size ≤ 16 := VL.out k hlt
      have KV := Lib.hid (fun w' => TermC.var_any (newName pre k) w' (by have := VL.out k hlt; omega))
      have KB9 : Hid (varL (newName pre k).data.toList = true) := Lib.hid (VN.out k hlt)
      rw [KB9.out] at KV
      unfold newName at KV
      have HNX := Lib.hid (NX.out k v0 hv0)
      have hvl9 : v0.size ≤ maxLen := by have := VV.out v0 (List.mem_of_getElem? hv0); unfold maxLen; omega
      have HK : keyOf Tryz.prog 9 (.string v0) = some (.string v0.data.toList) := keyOf_string_mk Tryz.underlying9 hvl9
      have A0 : k < maxLen := by unfold maxLen; omega
      have c6 : wr.cell? ⟨W2.heap.size + 1, 0, none⟩ = some (.map (some W2.heap.size)) := (hF.out.has N4.out (by omega)).cell 0
      clear hv0 OR KB9
      generalize hdg : (⟨(Lib.decDigits (k + 1)).toArray⟩ : ByteArray) = dg at *
      have hv1 : pre.size ≤ 16 := by rw [ByteArray.size_append] at hv16; omega
      have hv2 : dg.size ≤ 16 := by rw [ByteArray.size_append] at hv16; omega
      have HDG : Hid (newName pre k = pre ++ dg) := Lib.hid (by rw [← hdg]; rfl)
      clear hdg
      go_wp2_with fail
      refine (CI.out _ TB.out).mono ?_
      rintro e w5 ⟨rfl, k5⟩
      have hM5 := Lib.hid (hM.out.kept (row := none) ⟨k5.os, k5.tape, k5.output, k5.size, fun i hi _ => k5.block i hi⟩ (by simp))
      have hF5 := Lib.hid (hF.out.below k5)
      have c7 : w5.cell? ⟨W2.heap.size + 1, 0, none⟩ = some (.map (some W2.heap.size)) := (hF5.out.has N4.out (by omega)).cell 0
      clear k5 c6 TB
      go_wp2_with fail
      refine (KV.out _).mono ?_
      rintro e w5' ⟨rfl, rfl⟩
      go_wp2_with (at_mapUpdate; refine wpList_mapUpdate_own _ rfl _ _ _ 80 rfl 9 9 TermE.law Tryz.underlying80 heldE W2.heap.size k _ rfl hM5.out A0 _ _ _ rfl rfl HK _ [] rfl ?_; intro w6 hown6 hgrow6)
      have M6 : Hid (w6.ownsMap Tryz.prog 9 heldE W2.heap.size (k + 1) (DataOf (namesV (NL (k + 1))))) := Lib.hid (by rw [HNX.out, HDG.out]; exact hown6)
      have F6 := Lib.hid (hF5.out.trans hgrow6)
      clear hown6 hgrow6
      go_wp2_with fail
      go_roundw
      case rel => (repeat (refine Exists.intro _ ?_)); first | exact ⟨k + 1, by omega, by go_num, M6, F6⟩ | (refine ⟨?_, rfl⟩; exact ⟨k + 1, by omega, by go_num, M6, F6⟩)
      case measure => simp [intOf]; omega
    · obtain rfl : k = m := by omega
      have B5 : Hid (Below W2.heap.size w4 wr) := Lib.hid (hF.out.toBelow (Nat.le_refl _) (by omega))
      have D5 := Lib.hid (D4.out.trans (B5.out.mono (by omega)))
      have H5 := Lib.hid (hF.out.has H4.out (by omega))
      have E5 := Lib.hid (hF.out.has E4.out (by omega))
      have N5 := Lib.hid (hF.out.has N4.out (by omega))
      have CB2 := Lib.hid (CB1.out wr D5.out (fun w'' n k9 hn => renamer_any (NL k) W2.heap.size (W2.heap.size + 1) k n hn NM.out w'' (hM.out.kept (row := none) ⟨k9.os, k9.tape, k9.output, k9.size, fun i hi _ => k9.block i hi⟩ (by simp)) (N5.out.step0 k9)))
      obtain ⟨y1, y2, y3⟩ := UniA.three H5.out
      clear CB1 hF hM
      go_wp2_with fail
      refine CB2.out.mono ?_
      rintro e w7 ⟨q, d, v7, rfl, hS, hL, hnu, k7⟩
      obtain ⟨v7p, v7c, rfl⟩ := hL.form
      have D7 := Lib.hid (next0 D5.out k7)
      have E7 := Lib.hid (E5.out.step0 k7)
      have S7 := Lib.hid (hS.weaken (ok' := fun b => wr.heap.size ≤ b ∧ b < w7.heap.size) (fun b hb => hb.resolve_left id))
      have L7 := Lib.hid (hL.wide (ok' := fun b => wr.heap.size ≤ b ∧ b < w7.heap.size) (fun b hb => hb.resolve_left id))
      have NU := Lib.hid hnu
      have hsr : w4.heap.size ≤ wr.heap.size := B5.out.size
      clear y1 y2 y3 hS hL hnu k7 CB2
      generalize hlz : ul.length = lz at *
      have HLZ := Lib.hid hlz
      clear hlz
      obtain ⟨z1, z2, z3⟩ := UniA.three E7.out
      have f1 := E7.out.free 0
      have f2 := E7.out.free 1
      have f3 := E7.out.free 2
      have R8 := put3 E7.out (.string u.nm) (.slice q u.args.length d) (.slice v7p lz v7c)
      obtain ⟨r1, r2, r3⟩ := UniA.three R8
      have D8 := Lib.hid (((D7.out.setCell (p := ⟨w.heap.size + 1, 0, none⟩) (by simp) (.string u.nm)).setCell (p := ⟨w.heap.size + 1, 1, none⟩) (by simp) (.slice q u.args.length d)).setCell (p := ⟨w.heap.size + 1, 2, none⟩) (by simp) (.slice v7p lz v7c))
      have FR : ∀ b o, wr.heap.size ≤ b ∧ b < w7.heap.size → (((w7.setCell ⟨w.heap.size + 1, 0, none⟩ (.string u.nm)).setCell ⟨w.heap.size + 1, 1, none⟩ (.slice q u.args.length d)).setCell ⟨w.heap.size + 1, 2, none⟩ (.slice v7p lz v7c)).cell? ⟨b, o, none⟩ = w7.cell? ⟨b, o, none⟩ := fun b o hb => by
        rw [cell_far (by show b ≠ w.heap.size + 1; omega), cell_far (by show b ≠ w.heap.size + 1; omega), cell_far (by show b ≠ w.heap.size + 1; omega)]
      have S8 := Lib.hid (S7.out.frame FR)
      have L8 := Lib.hid (L7.out.keep FR)
      clear R8 E7 D7 S7 L7 FR
      go_wp2_with fail
      refine bodyPost_ret (v := .tuple #[.agg #[.string u.nm, .slice q u.args.length d, .slice v7p lz v7c], .bool true]) (by simp [results, Tryz.results33, go_sem, r1, r2, r3]) rfl ?_
      unfold RnX
      exact ⟨q, d, _, rfl, S8.out.weaken (fun b hb => ⟨by omega, by simpa [World.setCell] using hb.2⟩), L8.out.wide (fun b hb => ⟨by omega, by simpa [World.setCell] using hb.2⟩), NU.out, D8.out⟩
end UnrC
end Go.Proofs.YtihbnonbhelbmaaGreatDoor
/- Rename of the code, for any rule where a new name is no variable. Conditions: at most a thousand literals, a million parts; a prefix of at most a thousand bytes; strconv's table of powers of ten is as laid. Made by genren2.py. -/
namespace Go.Proofs.YtihbnonbhelbmaaGreatDoor
open Go Go.RowKit Go.Maps Go.WideMaps
namespace UnrD
open LexM TermM TermI Kit TermN TermU TermL TermE TermF UniK UniM UniA UniC UniD UniE UnmA UnmB UnmC UnmD UnmE UnmF UnmG UnmH UnmI LigG LigU LigY UnqA UnqB UnrA UnrB UnrC
set_option maxRecDepth 100000 in
set_option maxHeartbeats 1600000 in
theorem rename_no (h : Tm) (l : List Lt) (pre : ByteArray) (k0 : Nat) (w : World) (hv lv : Value) (hT : Tab w) (hs : SlIn (· < w.heap.size) w h.args hv) (hl0 : LIn (· < w.heap.size) w l lv) (hn : h.nm.size ≤ maxLen) (hll : l.length ≤ 1000) (hz : sizeL (atsL h l) ≤ 1000000)
    (hl : (varsOf (leavesL (atsL h l))).length ≤ 1000000) (hp : pre.size ≤ 1000) (hk0 : k0 < (varsOf (leavesL (atsL h l))).length) (hN : ∀ k, k < k0 → varB (newName pre k) = true) (hN0 : varB (newName pre k0) = false) :
    Calls Tryz.prog 33 #[.agg #[.string h.nm, hv, lv], .string pre] w fun e w' => e = .returned (.tuple #[.agg #[.string ⟨#[]⟩, .slice none 0 0, .slice none 0 0], .bool false]) ∧ Below w.heap.size w w' := by
  obtain ⟨p, c, rfl⟩ := hs.form
  obtain ⟨lp, lc, rfl⟩ := hl0.form
  obtain ⟨W2, hW2⟩ : ∃ W2, W2 = (w.alloc (.cells #[.string h.nm, .slice p h.args.length c, .slice lp l.length lc] 34)).alloc (.cells #[.string ⟨#[]⟩, .slice none 0 0, .slice none 0 0] 34) := ⟨_, rfl⟩
  have B2 : Hid (Below w.heap.size w W2) := Lib.hid (by rw [hW2]; exact next0 (below_alloc _ _) (below_alloc _ _))
  have H2 : Hid (Has W2 w.heap.size #[.string h.nm, .slice p h.args.length c, .slice lp l.length lc]) := Lib.hid (by rw [hW2]; exact (Has.new w _ _).alloc _)
  have E2 : Hid (Has W2 (w.heap.size + 1) #[.string ⟨#[]⟩, .slice none 0 0, .slice none 0 0]) := Lib.hid (by rw [hW2]; exact Has.new1 w _ _ _)
  have hs2 : w.heap.size + 2 ≤ W2.heap.size := by rw [hW2]; simp
  obtain ⟨W3, hW3⟩ : ∃ W3, W3 = (W2.alloc (.map #[] 0)).alloc (.cells #[.map (some W2.heap.size)] 80) := ⟨_, rfl⟩
  have B3 : Hid (Below W2.heap.size W2 W3) := Lib.hid (by rw [hW3]; exact next0 (below_alloc _ _) (below_alloc _ _))
  have M3 : Hid (W3.ownsMap Tryz.prog 9 heldE W2.heap.size 0 (DataOf (namesV (namesK (newName pre) (varsOf (leavesL (atsL h l))) 0)))) := Lib.hid (by rw [hW3]; exact (World.ownsMap_made _ _ _ _).alloc _)
  have N3 : Hid (Has W3 (W2.heap.size + 1) #[.map (some W2.heap.size)]) := Lib.hid (by rw [hW3]; exact Has.new1 W2 _ _ _)
  have hs3 : W2.heap.size + 2 ≤ W3.heap.size := by rw [hW3]; simp
  have D3 := Lib.hid (next0 B2.out B3.out)
  have HTB := Lib.hid (fun w' (k : Below w.heap.size w w') => tab_below hT k)
  have LW := Lib.hid (fun w' (k : Below w.heap.size w w') => (hl0.keep (w' := w') fun b o hb => k.cell (p := ⟨b, o, none⟩) hb).wide (ok' := (· < w'.heap.size)) fun b hb => Nat.lt_of_lt_of_le hb k.size)
  have SW := Lib.hid (fun w' (k : Below w.heap.size w w') => (hs.deep k (Nat.le_refl _)).weaken (ok' := (· < w'.heap.size)) fun b hb => Nat.lt_of_lt_of_le hb k.size)
  have CV := Lib.hid (rvars_any h l W3 _ _ (SW.out W3 D3.out) (LW.out W3 D3.out) hn hll hz)
  have hmm := @run_makeMap Tryz.prog
  have hmf := @hmf0
  unfold Vrs at CV
  have VV := Lib.hid (fun v (h9 : v ∈ varsOf (leavesL (atsL h l))) => var_ok (vars_var v h9))
  clear hs hn hz hl0 LW SW hT
  generalize varsOf (leavesL (atsL h l)) = vs at *
  generalize hm : vs.length = m at *
  have HM := Lib.hid hm
  have NX := Lib.hid (fun k v (h : vs[k]? = some v) => names_next (f := newName pre) h)
  have VN := Lib.hid hN
  have VL := Lib.hid (fun k (h : k < k0) => var_ok (hN k h))
  have VN0 := Lib.hid hN0
  clear hm hN hN0
  generalize hNL : namesK (newName pre) vs = NL at *
  clear hNL
  generalize l.length = ln at *
  generalize h.nm = hnm at *
  generalize h.args.length = hl9 at *
  have k1 := H2.out.cell 0
  obtain ⟨y1, y2, y3⟩ := UniA.three (H2.out.step0 B3.out)
  go_enter Tryz.func33, Tryz.ntmps33
  go_upto_region 1 with fail
  rw [← hW2]
  clear hW2
  go_upto_region 2 with fail
  rw [← hW3]
  clear hW3 hmm k1
  go_wp2_with fail
  refine CV.out.mono ?_
  rintro e w4 ⟨v4, base4, rfl, h1, h2, h3⟩
  obtain ⟨a9, c9, rfl⟩ := row_form h1
  have O4 := Lib.hid h1
  have D4 := Lib.hid (next0 D3.out h3)
  have M4 := Lib.hid (M3.out.kept (row := none) ⟨h3.os, h3.tape, h3.output, h3.size, fun i hi _ => h3.block i hi⟩ (by simp))
  have N4 := Lib.hid (N3.out.step0 h3)
  have H4 := Lib.hid ((H2.out.step0 B3.out).step0 h3)
  have E4 := Lib.hid ((E2.out.step0 B3.out).step0 h3)
  have hs4 : W3.heap.size ≤ w4.heap.size := h3.size
  clear h1 h3 y1 y2 y3 M3 N3 CV
  go_wp2_with fail
  go_loopw [14] (fun i wr => ∃ k : Nat, k ≤ k0 ∧ i = .int .i64 k ∧ Hid (wr.ownsMap Tryz.prog 9 heldE W2.heap.size k (DataOf (namesV (NL k)))) ∧ Hid (Ch W2.heap.size w4 wr)) (fun i _ => k0 - (intOf i).toNat)
  case atStart => exact ⟨0, Nat.zero_le _, rfl, M4, Lib.hid (Ch.refl _ _)⟩
  case round =>
    obtain ⟨k, hk, rfl, hM, hF⟩ := hrel
    by_cases hlt : k < k0
    · obtain ⟨v0, hv0⟩ : ∃ v0, vs[k]? = some v0 := ⟨vs[k]'(by rw [HM.out]; omega), by simp⟩
      have OR : wr.ownsRow base4 9 1 (.slice a9 m c9) vs.length (strs vs) := by
        rw [HM.out]
        exact O4.out.kept hF.out (Or.inr (fun e => by have := (O4.out.lt _ e).1; omega))
      obtain ⟨g, cap, hav, hcell, hgb, hgl⟩ := row_str OR hv0
      injection hav with hav1 hav3 hav2
      subst hav1 hav2
      clear hav3
      have CI : Hid (∀ w', Tab w' → Calls Tryz.prog 63 #[.int .i64 ((k : Int) + 1)] w' fun e w'' => e = .returned (.string ⟨(Lib.decDigits (k + 1)).toArray⟩) ∧ Below w'.heap.size w' w'') := Lib.hid (fun w' ht => by
        have := itoa_any ((k : Int) + 1) (by omega) (by omega) w' ht
        rw [itoa_pos k] at this
        exact this)
      have TB := Lib.hid (HTB.out wr (D4.out.trans ((hF.out.toBelow (Nat.le_refl _) (by omega)).mono (by omega))))
      have hv16 : (pre ++ ⟨(Lib.decDigits (k + 1)).toArray⟩).size ≤ 16 := VL.out k hlt
      have KV := Lib.hid (fun w' => TermC.var_any (newName pre k) w' (by have := VL.out k hlt; omega))
      have KB9 : Hid (varL (newName pre k).data.toList = true) := Lib.hid (VN.out k hlt)
      rw [KB9.out] at KV
      unfold newName at KV
      have HNX := Lib.hid (NX.out k v0 hv0)
      have hvl9 : v0.size ≤ maxLen := by have := VV.out v0 (List.mem_of_getElem? hv0); unfold maxLen; omega
      have HK : keyOf Tryz.prog 9 (.string v0) = some (.string v0.data.toList) := keyOf_string_mk Tryz.underlying9 hvl9
      have A0 : k < maxLen := by unfold maxLen; omega
      have c6 : wr.cell? ⟨W2.heap.size + 1, 0, none⟩ = some (.map (some W2.heap.size)) := (hF.out.has N4.out (by omega)).cell 0
      clear hv0 OR KB9
      generalize hdg : (⟨(Lib.decDigits (k + 1)).toArray⟩ : ByteArray) = dg at *
      have hv1 : pre.size ≤ 16 := by rw [ByteArray.size_append] at hv16; omega
      have hv2 : dg.size ≤ 16 := by rw [ByteArray.size_append] at hv16; omega
      have HDG : Hid (newName pre k = pre ++ dg) := Lib.hid (by rw [← hdg]; rfl)
      clear hdg
      go_wp2_with fail
      refine (CI.out _ TB.out).mono ?_
      rintro e w5 ⟨rfl, k5⟩
      have hM5 := Lib.hid (hM.out.kept (row := none) ⟨k5.os, k5.tape, k5.output, k5.size, fun i hi _ => k5.block i hi⟩ (by simp))
      have hF5 := Lib.hid (hF.out.below k5)
      have c7 : w5.cell? ⟨W2.heap.size + 1, 0, none⟩ = some (.map (some W2.heap.size)) := (hF5.out.has N4.out (by omega)).cell 0
      clear k5 c6 TB
      go_wp2_with fail
      refine (KV.out _).mono ?_
      rintro e w5' ⟨rfl, rfl⟩
      go_wp2_with (at_mapUpdate; refine wpList_mapUpdate_own _ rfl _ _ _ 80 rfl 9 9 TermE.law Tryz.underlying80 heldE W2.heap.size k _ rfl hM5.out A0 _ _ _ rfl rfl HK _ [] rfl ?_; intro w6 hown6 hgrow6)
      have M6 : Hid (w6.ownsMap Tryz.prog 9 heldE W2.heap.size (k + 1) (DataOf (namesV (NL (k + 1))))) := Lib.hid (by rw [HNX.out, HDG.out]; exact hown6)
      have F6 := Lib.hid (hF5.out.trans hgrow6)
      clear hown6 hgrow6
      go_wp2_with fail
      go_roundw
      case rel => (repeat (refine Exists.intro _ ?_)); first | exact ⟨k + 1, by omega, by go_num, M6, F6⟩ | (refine ⟨?_, rfl⟩; exact ⟨k + 1, by omega, by go_num, M6, F6⟩)
      case measure => simp [intOf]; omega
    · obtain rfl : k = k0 := by omega
      obtain ⟨v0, hv0⟩ : ∃ v0, vs[k]? = some v0 := ⟨vs[k]'(by rw [HM.out]; omega), by simp⟩
      have OR : wr.ownsRow base4 9 1 (.slice a9 m c9) vs.length (strs vs) := by
        rw [HM.out]
        exact O4.out.kept hF.out (Or.inr (fun e => by have := (O4.out.lt _ e).1; omega))
      obtain ⟨g, cap, hav, hcell, hgb, hgl⟩ := row_str OR hv0
      injection hav with hav1 hav3 hav2
      subst hav1 hav2
      clear hav3
      have CI : Hid (∀ w', Tab w' → Calls Tryz.prog 63 #[.int .i64 ((k : Int) + 1)] w' fun e w'' => e = .returned (.string ⟨(Lib.decDigits (k + 1)).toArray⟩) ∧ Below w'.heap.size w' w'') := Lib.hid (fun w' ht => by
        have := itoa_any ((k : Int) + 1) (by omega) (by omega) w' ht
        rw [itoa_pos k] at this
        exact this)
      have TB := Lib.hid (HTB.out wr (D4.out.trans ((hF.out.toBelow (Nat.le_refl _) (by omega)).mono (by omega))))
      have hv16 : (pre ++ ⟨(Lib.decDigits (k + 1)).toArray⟩ : ByteArray).size ≤ 2000 := by
        have h9 := Lib.itoa_length_le ((k : Int) + 1) (by omega) (by omega)
        rw [itoa_pos k] at h9
        have h8 : (⟨(Lib.decDigits (k + 1)).toArray⟩ : ByteArray).size = (Lib.decDigits (k + 1)).length := by simp [ByteArray.size]
        rw [ByteArray.size_append, h8]
        omega
      have KV := Lib.hid (fun w' => TermC.var_any (newName pre k) w' (by show (pre ++ ⟨(Lib.decDigits (k + 1)).toArray⟩ : ByteArray).size ≤ _; omega))
      have KB9 : Hid (varL (newName pre k).data.toList = false) := Lib.hid VN0.out
      rw [KB9.out] at KV
      unfold newName at KV
      have HNX := Lib.hid (NX.out k v0 hv0)
      have hvl9 : v0.size ≤ maxLen := by have := VV.out v0 (List.mem_of_getElem? hv0); unfold maxLen; omega
      have HK : keyOf Tryz.prog 9 (.string v0) = some (.string v0.data.toList) := keyOf_string_mk Tryz.underlying9 hvl9
      have A0 : k < maxLen := by unfold maxLen; omega
      have c6 : wr.cell? ⟨W2.heap.size + 1, 0, none⟩ = some (.map (some W2.heap.size)) := (hF.out.has N4.out (by omega)).cell 0
      clear hv0 OR KB9
      generalize hdg : (⟨(Lib.decDigits (k + 1)).toArray⟩ : ByteArray) = dg at *
      have hv1 : pre.size ≤ 2000 := by rw [ByteArray.size_append] at hv16; omega
      have hv2 : dg.size ≤ 2000 := by rw [ByteArray.size_append] at hv16; omega
      have HDG : Hid (newName pre k = pre ++ dg) := Lib.hid (by rw [← hdg]; rfl)
      clear hdg
      go_wp2_with fail
      refine (CI.out _ TB.out).mono ?_
      rintro e w5 ⟨rfl, k5⟩
      have hM5 := Lib.hid (hM.out.kept (row := none) ⟨k5.os, k5.tape, k5.output, k5.size, fun i hi _ => k5.block i hi⟩ (by simp))
      have hF5 := Lib.hid (hF.out.below k5)
      have c7 : w5.cell? ⟨W2.heap.size + 1, 0, none⟩ = some (.map (some W2.heap.size)) := (hF5.out.has N4.out (by omega)).cell 0
      clear k5 c6 TB
      go_wp2_with fail
      refine (KV.out _).mono ?_
      rintro e w5' ⟨rfl, rfl⟩
      have E5 := Lib.hid (hF5.out.has E4.out (by omega))
      have B5 : Hid (Below W2.heap.size w4 w5) := Lib.hid (hF5.out.toBelow (Nat.le_refl _) (by omega))
      have D5 := Lib.hid (D4.out.trans (B5.out.mono (by omega)))
      obtain ⟨z1, z2, z3⟩ := UniA.three E5.out
      have f1 := E5.out.free 0
      have f2 := E5.out.free 1
      have f3 := E5.out.free 2
      have R8 := put3 E5.out (.string ⟨#[]⟩) (.slice none 0 0) (.slice none 0 0)
      obtain ⟨r1, r2, r3⟩ := UniA.three R8
      have D8 := Lib.hid (((D5.out.setCell (p := ⟨w.heap.size + 1, 0, none⟩) (by simp) (.string ⟨#[]⟩)).setCell (p := ⟨w.heap.size + 1, 1, none⟩) (by simp) (.slice none 0 0)).setCell (p := ⟨w.heap.size + 1, 2, none⟩) (by simp) (.slice none 0 0))
      clear R8 E5 D5 B5
      go_wp2_with fail
      refine bodyPost_ret (v := .tuple #[.agg #[.string ⟨#[]⟩, .slice none 0 0, .slice none 0 0], .bool false]) (by simp [results, Tryz.results33, go_sem, r1, r2, r3]) rfl ?_
      exact ⟨rfl, D8.out⟩
end UnrD
end Go.Proofs.YtihbnonbhelbmaaGreatDoor
/- The calls of the chapter's examples. Condition: the variable nameEnds holds its bytes. -/
namespace Go.Proofs.YtihbnonbhelbmaaGreatDoor
open Go Go.RowKit
namespace UnmK
open LexM TermM TermI Kit TermN TermU TermL TermE TermF UniK UniM UniA UniC UniD UniE UniF UniO UniL UniP UniQ UniV TermT UnmA UnmE UnmF UnmG UnmH UnmI UnmJ
/-- A term with two arguments. -/
def TwR (n : ByteArray) (l : List Tm) (w : World) (e : Ending) (w' : World) : Prop :=
  ∃ (p : Option Addr) (c : Nat), e = .returned (.agg #[.string n, .slice p 2 c]) ∧ SlIn (· < w'.heap.size) w' l (.slice p 2 c) ∧ Below w.heap.size w w'
set_option maxRecDepth 100000 in
set_option maxHeartbeats 800000 in
theorem func2_any (n : ByteArray) (a b : Tm) (B : Nat) (w : World) (pa pb : Option Addr) (ca cb : Nat) (hB : B ≤ w.heap.size) (ha : SlIn (· < B) w a.args (.slice pa a.args.length ca)) (hb : SlIn (· < B) w b.args (.slice pb b.args.length cb)) (hna : a.nm.size ≤ maxLen) (hnb : b.nm.size ≤ maxLen) :
    Calls Tryz.prog 37 #[.string n, .agg #[.string a.nm, .slice pa a.args.length ca], .agg #[.string b.nm, .slice pb b.args.length cb]] w (TwR n [a, b] w) := by
  obtain ⟨W3, hW3⟩ : ∃ W3, W3 = ((w.alloc (.cells #[.string a.nm, .slice pa a.args.length ca] 27)).alloc (.cells #[.string b.nm, .slice pb b.args.length cb] 27)).alloc (.cells #[.string ⟨#[]⟩, .slice none 0 0] 27) := ⟨_, rfl⟩
  have B3 : Hid (Below w.heap.size w W3) := Lib.hid (by rw [hW3]; exact next0 (next0 (below_alloc _ _) (below_alloc _ _)) (below_alloc _ _))
  have H3 : Hid (Has W3 w.heap.size #[.string a.nm, .slice pa a.args.length ca]) := Lib.hid (by rw [hW3]; exact ((Has.new w _ _).alloc _).alloc _)
  have T3 : Hid (Has W3 (w.heap.size + 1) #[.string b.nm, .slice pb b.args.length cb]) := Lib.hid (by rw [hW3]; exact (Has.new1 w _ _ _).alloc _)
  have E3 : Hid (Has W3 (w.heap.size + 1 + 1) #[.string ⟨#[]⟩, .slice none 0 0]) := Lib.hid (by rw [hW3]; exact Has.new2 w _ _ _ _)
  obtain ⟨W4, hW4⟩ : ∃ W4, W4 = W3.alloc (.cells #[.string a.nm, .slice pa a.args.length ca, .string b.nm, .slice pb b.args.length cb] 27) := ⟨_, rfl⟩
  have B4 : Hid (Below w.heap.size w W4) := Lib.hid (by rw [hW4]; exact next0 B3.out (below_alloc _ _))
  have hs3 : w.heap.size + 3 ≤ W3.heap.size := by rw [hW3]; simp
  have hs4 : W3.heap.size + 1 = W4.heap.size := by rw [hW4]; simp
  have N4 : Hid (Has W4 W3.heap.size #[.string a.nm, .slice pa a.args.length ca, .string b.nm, .slice pb b.args.length cb]) := Lib.hid (by rw [hW4]; exact Has.new _ _ _)
  have E4 : Hid (Has W4 (w.heap.size + 1 + 1) #[.string ⟨#[]⟩, .slice none 0 0]) := Lib.hid (by rw [hW4]; exact E3.out.alloc _)
  obtain ⟨W5, hW5⟩ : ∃ W5, W5 = (W4.setCell ⟨w.heap.size + 1 + 1, 0, none⟩ (.string n)).setCell ⟨w.heap.size + 1 + 1, 1, none⟩ (.slice (some ⟨W3.heap.size, 0, none⟩) 2 2) := ⟨_, rfl⟩
  have B5 : Hid (Below w.heap.size w W5) := Lib.hid (by rw [hW5]; exact (B4.out.setCell (p := ⟨w.heap.size + 1 + 1, 0, none⟩) (by show w.heap.size ≤ w.heap.size + 1 + 1; omega) _).setCell (p := ⟨w.heap.size + 1 + 1, 1, none⟩) (by show w.heap.size ≤ w.heap.size + 1 + 1; omega) _)
  have N5 : Has W5 W3.heap.size #[.string a.nm, .slice pa a.args.length ca, .string b.nm, .slice pb b.args.length cb] := by
    rw [hW5]
    exact (N4.out.far (p := ⟨w.heap.size + 1 + 1, 0, none⟩) (by show W3.heap.size ≠ w.heap.size + 1 + 1; omega) _).far (p := ⟨w.heap.size + 1 + 1, 1, none⟩) (by show W3.heap.size ≠ w.heap.size + 1 + 1; omega) _
  have hs5 : W4.heap.size = W5.heap.size := by rw [hW5]; simp [World.setCell]
  have SL := Lib.hid (TermH.slin_of (B := B) (B' := W5.heap.size) (cap := 2) (L := [(a, .slice pa a.args.length ca), (b, .slice pb b.args.length cb)]) (by omega) (by have := B5.out.size; omega) (Nat.le_refl _) (by unfold maxLen; simp) N5 (fun x hx => by
    rcases List.mem_cons.1 hx with rfl | hx
    · exact ⟨ha.deep B5.out hB, hna⟩
    · obtain rfl := List.mem_singleton.1 hx
      exact ⟨hb.deep B5.out hB, hnb⟩))
  dsimp only [List.map, List.length] at SL
  obtain ⟨e1, e2, e3, e4, e5⟩ := E4.out.two
  have r1 : W5.cell? ⟨w.heap.size + 1 + 1, 0, none⟩ = some (.string n) := by rw [hW5]; exact (((E4.out.set 0 (.string n)).set 1 _).cell 0)
  have r2 : W5.cell? ⟨w.heap.size + 1 + 1, 1, none⟩ = some (.slice (some ⟨W3.heap.size, 0, none⟩) 2 2) := by rw [hW5]; exact (((E4.out.set 0 (.string n)).set 1 _).cell 1)
  clear ha hb hna hnb N4 N5 E4 E3 B4
  obtain ⟨y1, y2, _⟩ := H3.out.two
  obtain ⟨z1, z2, _⟩ := T3.out.two
  unfold TwR
  have HL : Hid ([a, b] = [a, b]) := Lib.hid rfl
  generalize [a, b] = l at *
  generalize a.nm = an at *
  generalize a.args.length = al at *
  generalize b.nm = bn at *
  generalize b.args.length = bl at *
  clear HL
  go_enter Tryz.func37, Tryz.ntmps37
  go_upto_region 1 with fail
  rw [← hW3]
  clear hW3
  rw [hW4] at e1 e2 e3 e4
  go_wp2_with fail
  rw [← hW4, ← hW5]
  refine bodyPost_ret (v := .agg #[.string n, .slice (some ⟨W3.heap.size, 0, none⟩) 2 2]) (by simp [results, Tryz.results37, go_sem, r1, r2]) rfl ?_
  exact ⟨_, _, rfl, SL.out, B5.out⟩
/-! ### The examples -/
theorem z1 : sizeT (p2 nP tX tY) = 3 := by kernel_rfl
theorem z2 : sizeT (p2 nP tY tA) = 3 := by kernel_rfl
theorem z3 : sizeT tX = 1 := by kernel_rfl
theorem z4 : sizeT (p2 ⟨#[102]⟩ tX tA) = 3 := by kernel_rfl
theorem z5 : sizeT (p2 nP tA tA) = 3 := by kernel_rfl
theorem c_u1 (w : World) (hw : Wd w) (p q : Option Addr) (c d : Nat) (h1 : SlIn (· < w.heap.size) w [tX, tY] (.slice p 2 c)) (h2 : SlIn (· < w.heap.size) w [tY, tA] (.slice q 2 d)) :
    Calls Tryz.prog 29 #[.agg #[.string ⟨#[112]⟩, .slice p 2 c], .agg #[.string ⟨#[112]⟩, .slice q 2 d]] w fun e w' => ∃ v : Value, e = .returned (.tuple #[v, .bool true]) ∧ SIn (· < w'.heap.size) w' both v ∧ Below w.heap.size w w' := by
  have := unify_any sortc 9 (p2 nP tX tY) (p2 nP tY tA) (some both) u1 okP okQ (by rw [z1, z2]; decide) (len_le l1 (by decide)) w.heap.size w (.slice p 2 c) (.slice q 2 d) hw hw.1 (Nat.le_refl _) h1 h2
  refine this.mono ?_
  rintro e w' ⟨v, f, rfl, ht, hf, hb⟩
  cases f
  · cases (hf rfl).1
  · obtain ⟨s', e1, h⟩ := ht rfl
    cases e1
    exact ⟨v, rfl, h, hb⟩
theorem c_u2 (w : World) (hw : Wd w) (q : Option Addr) (d : Nat) (h2 : SlIn (· < w.heap.size) w [tX, tA] (.slice q 2 d)) :
    Calls Tryz.prog 29 #[.agg #[.string ⟨#[88]⟩, .slice none 0 0], .agg #[.string ⟨#[102]⟩, .slice q 2 d]] w fun e w' => e = .returned (.tuple #[.slice none 0 0, .bool false]) ∧ Below w.heap.size w w' := by
  have := unify_any sortc 9 tX (p2 ⟨#[102]⟩ tX tA) none u2 okX okF (by rw [z3, z4]; decide) (len_le l2 (by decide)) w.heap.size w (.slice none 0 0) (.slice q 2 d) hw hw.1 (Nat.le_refl _) (SlIn.none _ _) h2
  refine this.mono ?_
  rintro e w' ⟨v, f, rfl, ht, hf, hb⟩
  cases f
  · obtain ⟨_, rfl⟩ := hf rfl
    exact ⟨rfl, hb⟩
  · obtain ⟨s', e1, h⟩ := ht rfl
    cases e1
theorem c_m (w : World) (p q : Option Addr) (c d : Nat) (h1 : SlIn (· < w.heap.size) w [tX, tY] (.slice p 2 c)) (h2 : SlIn (· < w.heap.size) w [tA, tA] (.slice q 2 d)) :
    Calls Tryz.prog 26 #[.agg #[.string ⟨#[112]⟩, .slice p 2 c], .agg #[.string ⟨#[112]⟩, .slice q 2 d], .slice none 0 0] w fun e w' => ∃ v : Value, e = .returned (.tuple #[v, .bool true]) ∧ SIn (· < w'.heap.size) w' both v ∧ Below w.heap.size w w' := by
  have := match_any (p2 nP tX tY) (p2 nP tA tA) [] (by rw [z5]; decide) (fun y hy => by cases hy) w.heap.size w (.slice none 0 0) (.slice p 2 c) (.slice q 2 d) (Nat.le_refl _) (SIn.nil _ _) h1 h2 (by decide) (by decide)
  rw [m1] at this
  refine this.mono ?_
  rintro e w' ⟨v, f, rfl, ht, hf, hb⟩
  cases f
  · cases (hf rfl).1
  · obtain ⟨s', e1, h⟩ := ht rfl
    cases e1
    exact ⟨v, rfl, h, hb⟩
theorem d2 : vldS [(⟨#[88]⟩, tY), (⟨#[89]⟩, tA)] = true := by kernel_rfl
theorem c_a (w : World) (sv : Value) (p : Option Addr) (c : Nat) (hs : SIn (· < w.heap.size) w [(⟨#[88]⟩, tY), (⟨#[89]⟩, tA)] sv) (h1 : SlIn (· < w.heap.size) w [tX, tY] (.slice p 2 c)) :
    Calls Tryz.prog 20 #[sv, .agg #[.string ⟨#[112]⟩, .slice p 2 c]] w (TwR ⟨#[112]⟩ [tY, tA] w) := by
  have := apply_any [(⟨#[88]⟩, tY), (⟨#[89]⟩, tA)] (vld_srt d2).1 ⟨by decide, fun y hy => by
    rcases List.mem_cons.1 hy with rfl | hy
    · have e2 : sizeT tY = 1 := by kernel_rfl
      show sizeT tY ≤ _
      omega
    · obtain rfl := List.mem_singleton.1 hy
      have e2 : sizeT tA = 1 := by kernel_rfl
      show sizeT tA ≤ _
      omega⟩ (p2 nP tX tY) w.heap.size w sv (.slice p 2 c) (Nat.le_refl _) hs h1 (by decide) (by rw [z1]; decide)
  rw [a1] at this
  refine this.mono ?_
  rintro e w' ⟨q, d, rfl, h, _, hb⟩
  exact ⟨q, d, rfl, h.weaken fun b hb => hb.2, hb⟩
theorem c_r (w : World) (p : Option Addr) (c : Nat) (h1 : SlIn (· < w.heap.size) w [tX, tY] (.slice p 2 c)) :
    Calls Tryz.prog 33 #[.agg #[.string ⟨#[112]⟩, .slice p 2 c, .slice none 0 0], .string ⟨#[86]⟩] w fun e w' => ∃ (q : Option Addr) (d : Nat), e = .returned (.tuple #[.agg #[.string ⟨#[112]⟩, .slice q 2 d, .slice none 0 0], .bool true]) ∧ SlIn (· < w'.heap.size) w' [.mk ⟨#[86, 49]⟩ [], .mk ⟨#[86, 50]⟩ []] (.slice q 2 d) ∧ Below w.heap.size w w' := by
  have := rename_nil (p2 nP tX tY) ⟨#[86]⟩ w.heap.size w (.slice p 2 c) (Nat.le_refl _) h1 (by decide) (by rw [z1]; decide) (by rw [v3]; decide) (fun k hk => by
    rw [v3] at hk
    have hk2 : k < 2 := hk
    match k, hk2 with
    | 0, _ => exact n1.1
    | 1, _ => exact n1.2)
  rw [v3] at this
  rw [show ([⟨#[88]⟩, ⟨#[89]⟩] : List ByteArray).length = 2 from rfl, r1] at this
  refine this.mono ?_
  rintro e w' ⟨q, d, rfl, h, _, hb⟩
  exact ⟨q, d, rfl, h.weaken fun b hb => hb.2, hb⟩
end UnmK
end Go.Proofs.YtihbnonbhelbmaaGreatDoor
/- awake: the chapter's examples; made by genunml.py. Condition: the variable nameEnds holds its bytes. -/
namespace Go.Proofs.YtihbnonbhelbmaaGreatDoor
open Go Go.RowKit
namespace UnmL
open LexM TermM TermI Kit TermN TermU TermL TermE TermF UniK UniM UniA UniC UniD UniE UniF UniO UniL UniP UniQ UniV TermT UnmA UnmE UnmF UnmG UnmH UnmI UnmJ UnmK
theorem c_f (n a b : ByteArray) (ha : a.size ≤ maxLen) (hb : b.size ≤ maxLen) (w : World) : Calls Tryz.prog 37 #[.string n, .agg #[.string a, .slice none 0 0], .agg #[.string b, .slice none 0 0]] w (TwR n [.mk a [], .mk b []] w) :=
  func2_any n (.mk a []) (.mk b []) 0 w none none 0 0 (Nat.zero_le _) (SlIn.none _ _) (SlIn.none _ _) ha hb
theorem sin_has {ok : Nat → Prop} {w : World} {g : Nat} (L : List (Bd × Value)) (hH : Has w g (KB.flat L).toArray) (hI : ∀ x ∈ L, KB.inn ok w x) (hg : ok g) (hl : L.length ≤ maxLen) : SIn ok w (L.map (·.1)) (.slice (some ⟨g, 0, none⟩) L.length L.length) := by
  refine ⟨L, rfl, some ⟨g, 0, none⟩, L.length, rfl, Nat.le_refl _, hl, hI, fun _ => ⟨g, 0, rfl, hg, fun i x hx j u hu => ?_⟩⟩
  rw [Nat.zero_add, hH.cell]
  have := flat_get (K := KB) L i x hx j u hu
  simpa using this
theorem sin_two (w : World) (g : Nat) (a b s t : ByteArray) (ha : a.size ≤ maxLen) (hb : b.size ≤ maxLen) (hs : s.size ≤ maxLen) (ht : t.size ≤ maxLen) (hg : g < w.heap.size)
    (hH : Has w g #[.string a, .string s, .slice none 0 0, .string b, .string t, .slice none 0 0]) : SIn (· < w.heap.size) w [(a, .mk s []), (b, .mk t [])] (.slice (some ⟨g, 0, none⟩) 2 2) := by
  refine sin_has [((a, .mk s []), .slice none 0 0), ((b, .mk t []), .slice none 0 0)] hH ?_ hg (by unfold maxLen; simp)
  intro x hx
  rcases List.mem_cons.1 hx with rfl | hx
  · exact ⟨SlIn.none _ _, hs, ha⟩
  · obtain rfl := List.mem_singleton.1 hx
    exact ⟨SlIn.none _ _, ht, hb⟩
theorem c_t (l : List Tm) (n : ByteArray) (_hl : l.length = 2) (w : World) (p q : Option Addr) (c d : Nat) (h1 : SlIn (· < w.heap.size) w l (.slice p 2 c)) (h2 : SlIn (· < w.heap.size) w l (.slice q 2 d)) :
    Calls Tryz.prog 18 #[.agg #[.string n, .slice p 2 c], .agg #[.string n, .slice q 2 d]] w fun e w' => e = .returned (.bool true) ∧ Gr w w' :=
  TermEq.term_any (.mk n l) true w.heap.size w _ (.mk n l) _ (by simp) (Nat.le_refl _) h1 h2
set_option maxRecDepth 100000 in
set_option maxHeartbeats 3200000 in
theorem awake_any (w : World) (hw : Wd w) : Calls Tryz.prog 13 #[] w fun e w' => e = .returned (.bool true) ∧ Below w.heap.size w w' := by
  obtain ⟨W3, hW3⟩ : ∃ W3, W3 = ((w.alloc (.cells #[.string ⟨#[97]⟩, .slice none 0 0] 27)).alloc (.cells #[.string ⟨#[88]⟩, .slice none 0 0] 27)).alloc (.cells #[.string ⟨#[89]⟩, .slice none 0 0] 27) := ⟨_, rfl⟩
  have B3 : Hid (Below w.heap.size w W3) := Lib.hid (by rw [hW3]; exact next0 (next0 (below_alloc _ _) (below_alloc _ _)) (below_alloc _ _))
  have A3 : Hid (Has W3 w.heap.size #[.string ⟨#[97]⟩, .slice none 0 0]) := Lib.hid (by rw [hW3]; exact ((Has.new w _ _).alloc _).alloc _)
  have X3 : Hid (Has W3 (w.heap.size + 1) #[.string ⟨#[88]⟩, .slice none 0 0]) := Lib.hid (by rw [hW3]; exact (Has.new1 w _ _ _).alloc _)
  have Y3 : Hid (Has W3 (w.heap.size + 1 + 1) #[.string ⟨#[89]⟩, .slice none 0 0]) := Lib.hid (by rw [hW3]; exact Has.new2 w _ _ _ _)
  have HWD := Lib.hid (fun w' (k : Below w.heap.size w w') => hw.below k hw.1)
  have F2 := Lib.hid (fun w' => c_f ⟨#[112]⟩ ⟨#[88]⟩ ⟨#[89]⟩ (by decide) (by decide) w')
  unfold TwR at F2
  clear hw
  obtain ⟨x1, x2, _⟩ := X3.out.two
  obtain ⟨y1, y2, _⟩ := Y3.out.two
  go_enter Tryz.func13, Tryz.ntmps13
  go_upto_region 2 with fail
  rw [← hW3]
  clear hW3
  go_wp2_with fail
  refine (F2.out _).mono ?_
  rintro e w4 ⟨pP, cP, rfl, s4, b4⟩
  obtain ⟨W5, hW5⟩ : ∃ W5, W5 = w4.alloc (.cells #[.string ⟨#[112]⟩, .slice pP 2 cP] 27) := ⟨_, rfl⟩
  have B5 : Hid (Below W3.heap.size W3 W5) := Lib.hid (by rw [hW5]; exact next0 b4 (below_alloc _ _))
  have P5 : Hid (Has W5 w4.heap.size #[.string ⟨#[112]⟩, .slice pP 2 cP]) := Lib.hid (by rw [hW5]; exact Has.new _ _ _)
  have SP := Lib.hid (fun w' (k : Below W5.heap.size W5 w') => show SlIn (· < w'.heap.size) w' [tX, tY] (.slice pP 2 cP) from by
    have k4 : Below w4.heap.size w4 w' := by rw [hW5] at k; exact next0 (below_alloc _ _) k
    exact (s4.deep k4 (Nat.le_refl _)).weaken fun b hb => Nat.lt_of_lt_of_le hb k4.size)
  have BW := Lib.hid (next0 B3.out B5.out)
  have HH5 := Lib.hid (fun w' (k : Below W5.heap.size W5 w') => show w'.cell? ⟨w.heap.size, 0, none⟩ = some (.string ⟨#[97]⟩) ∧ w'.cell? ⟨w.heap.size, 1, none⟩ = some (.slice none 0 0) ∧ w'.cell? ⟨w.heap.size + 1, 0, none⟩ = some (.string ⟨#[88]⟩) ∧ w'.cell? ⟨w.heap.size + 1, 1, none⟩ = some (.slice none 0 0) ∧ w'.cell? ⟨w.heap.size + 1 + 1, 0, none⟩ = some (.string ⟨#[89]⟩) ∧ w'.cell? ⟨w.heap.size + 1 + 1, 1, none⟩ = some (.slice none 0 0) ∧ w'.cell? ⟨w4.heap.size, 0, none⟩ = some (.string ⟨#[112]⟩) ∧ w'.cell? ⟨w4.heap.size, 1, none⟩ = some (.slice pP 2 cP) from by
    have k3 := next0 B5.out k
    obtain ⟨a1, a2, _⟩ := (A3.out.step0 k3).two
    obtain ⟨b1, b2, _⟩ := (X3.out.step0 k3).two
    obtain ⟨c1, c2, _⟩ := (Y3.out.step0 k3).two
    obtain ⟨d1, d2, _⟩ := (P5.out.step0 k).two
    exact ⟨a1, a2, b1, b2, c1, c2, d1, d2⟩)
  have CU1 := Lib.hid (fun w' (k : Below W5.heap.size W5 w') q d h => c_u1 w' (HWD.out w' (next0 BW.out k)) pP q cP d (SP.out w' k) h)
  have CM1 := Lib.hid (fun w' (k : Below W5.heap.size W5 w') q d h => c_m w' pP q cP d (SP.out w' k) h)
  have CU2 := Lib.hid (fun w' (k : Below W5.heap.size W5 w') q d h => c_u2 w' (HWD.out w' (next0 BW.out k)) q d h)
  have CA1 := Lib.hid (fun w' (k : Below W5.heap.size W5 w') sv h => c_a w' sv pP cP h (SP.out w' k))
  have CR1 := Lib.hid (fun w' (k : Below W5.heap.size W5 w') => c_r w' pP cP (SP.out w' k))
  unfold TwR at CA1
  have K2 : Hid (Below W5.heap.size W5 W5) := Lib.hid (Below.refl _ _)
  clear x1 x2 y1 y2 s4 b4 F2 A3 X3 Y3 P5 B3 B5 HWD SP
  go_upto_region 3 with fail
  rw [← hW5]
  clear hW5
  have F3 := Lib.hid (fun w' => c_f ⟨#[112]⟩ ⟨#[89]⟩ ⟨#[97]⟩ (by decide) (by decide) w')
  unfold TwR at F3
  obtain ⟨x1, x2, x3, x4, x5, x6, x7, x8⟩ := HH5.out _ K2.out
  go_cut [5, 6] (fun s5 s6 wx => s6 = .bool true ∧ Hid (SIn (· < wx.heap.size) wx both s5) ∧ Hid (Below W5.heap.size W5 wx))
  case first =>
    go_region_law (first
      | (go_simp; go_at_call 37; (with_reducible refine (F3.out _).mono ?_); rintro e w6 ⟨q6, d6, rfl, s6, b6⟩; have K6 : Hid (Below W5.heap.size W5 w6) := Lib.hid (by first | exact next0 K2.out b6 | exact next0 K2.out.drew b6 | exact next0 (below_drewN K2.out _) b6); have S6 := Lib.hid s6; clear s6 b6 x1 x2 x3 x4 x5 x6 x7 x8; obtain ⟨x1, x2, x3, x4, x5, x6, x7, x8⟩ := HH5.out _ K6.out)
      | (go_simp; go_at_call 29; (with_reducible refine (CU1.out _ (by first | exact K6.out | exact K6.out.drew | exact below_drewN K6.out _) _ _ (by first | exact S6.out | exact S6.out.frame (fun _ _ _ => rfl))).mono ?_); rintro e w7 ⟨v7, rfl, h7, b7⟩; have K7 : Hid (Below W5.heap.size W5 w7) := Lib.hid (by first | exact next0 K6.out b7 | exact next0 K6.out.drew b7 | exact next0 (below_drewN K6.out _) b7); have S7 := Lib.hid h7; clear h7 b7))
    all_goals
      go_wp2_with fail
      go_meet
      exact ⟨rfl, S7, K7⟩
  case rest =>
    obtain ⟨rfl, SA, K3⟩ := hcut
    obtain ⟨wa, hwa⟩ : ∃ wa, wa = wc := ⟨_, rfl⟩
    rw [← hwa] at SA K3 ⊢
    clear hwa
    clear x1 x2 x3 x4 x5 x6 x7 x8 F3 K2
    have F4 := Lib.hid (fun w' => c_f ⟨#[112]⟩ ⟨#[97]⟩ ⟨#[97]⟩ (by decide) (by decide) w')
    unfold TwR at F4
    go_upto_region 4 with fail
    obtain ⟨x1, x2, x3, x4, x5, x6, x7, x8⟩ := HH5.out _ K3.out
    go_cut [7, 8] (fun s7 s8 wx => s8 = .bool true ∧ Hid (SIn (· < wx.heap.size) wx both s7) ∧ Hid (Below wa.heap.size wa wx) ∧ Hid (Below W5.heap.size W5 wx))
    case first =>
      go_region_law (first
        | (go_simp; go_at_call 37; (with_reducible refine (F4.out _).mono ?_); rintro e w6 ⟨q6, d6, rfl, s6, b6⟩; have K6 : Hid (Below W5.heap.size W5 w6) := Lib.hid (by first | exact next0 K3.out b6 | exact next0 K3.out.drew b6 | exact next0 (below_drewN K3.out _) b6); have R6 : Hid (Below wa.heap.size wa w6) := Lib.hid (by first | exact b6 | exact next0 (Below.refl _ _).drew b6 | exact next0 (below_drewN (Below.refl _ _) _) b6); have S6 := Lib.hid s6; clear s6 b6 x1 x2 x3 x4 x5 x6 x7 x8; obtain ⟨x1, x2, x3, x4, x5, x6, x7, x8⟩ := HH5.out _ K6.out)
        | (go_simp; go_at_call 26; (with_reducible refine (CM1.out _ (by first | exact K6.out | exact K6.out.drew | exact below_drewN K6.out _) _ _ (by first | exact S6.out | exact S6.out.frame (fun _ _ _ => rfl))).mono ?_); rintro e w7 ⟨v7, rfl, h7, b7⟩; have K7 : Hid (Below W5.heap.size W5 w7) := Lib.hid (by first | exact next0 K6.out b7 | exact next0 K6.out.drew b7 | exact next0 (below_drewN K6.out _) b7); have R7 : Hid (Below wa.heap.size wa w7) := Lib.hid (by first | exact next0 R6.out b7 | exact next0 R6.out.drew b7 | exact next0 (below_drewN R6.out _) b7); have S7 := Lib.hid h7; clear h7 b7))
      all_goals
        go_wp2_with fail
        go_meet
        exact ⟨rfl, S7, R7, K7⟩
    case rest =>
      obtain ⟨rfl, SB, R4, K4⟩ := hcut
      obtain ⟨wb, hwb⟩ : ∃ wb, wb = wc := ⟨_, rfl⟩
      rw [← hwb] at SB R4 K4 ⊢
      clear hwb
      clear x1 x2 x3 x4 x5 x6 x7 x8 F4
      have F5 := Lib.hid (fun w' => c_f ⟨#[102]⟩ ⟨#[88]⟩ ⟨#[97]⟩ (by decide) (by decide) w')
      unfold TwR at F5
      go_upto_region 5 with fail
      obtain ⟨x1, x2, x3, x4, x5, x6, x7, x8⟩ := HH5.out _ K4.out
      go_cut [9, 10] (fun s9 s10 wx => s10 = .bool false ∧ Hid (Below wb.heap.size wb wx) ∧ Hid (Below W5.heap.size W5 wx))
      case first =>
        go_region_law (first
          | (go_simp; go_at_call 37; (with_reducible refine (F5.out _).mono ?_); rintro e w6 ⟨q6, d6, rfl, s6, b6⟩; have K6 : Hid (Below W5.heap.size W5 w6) := Lib.hid (by first | exact next0 K4.out b6 | exact next0 K4.out.drew b6 | exact next0 (below_drewN K4.out _) b6); have R6 : Hid (Below wb.heap.size wb w6) := Lib.hid (by first | exact b6 | exact next0 (Below.refl _ _).drew b6 | exact next0 (below_drewN (Below.refl _ _) _) b6); have S6 := Lib.hid s6; clear s6 b6 x1 x2 x3 x4 x5 x6 x7 x8; obtain ⟨x1, x2, x3, x4, x5, x6, x7, x8⟩ := HH5.out _ K6.out)
          | (go_simp; go_at_call 29; (with_reducible refine (CU2.out _ (by first | exact K6.out | exact K6.out.drew | exact below_drewN K6.out _) _ _ (by first | exact S6.out | exact S6.out.frame (fun _ _ _ => rfl))).mono ?_); rintro e w7 ⟨rfl, b7⟩; have K7 : Hid (Below W5.heap.size W5 w7) := Lib.hid (by first | exact next0 K6.out b7 | exact next0 K6.out.drew b7 | exact next0 (below_drewN K6.out _) b7); have R7 : Hid (Below wb.heap.size wb w7) := Lib.hid (by first | exact next0 R6.out b7 | exact next0 R6.out.drew b7 | exact next0 (below_drewN R6.out _) b7); clear b7))
        all_goals
          go_wp2_with fail
          go_meet
          exact ⟨rfl, R7, K7⟩
      case rest =>
        obtain ⟨rfl, R5, K5⟩ := hcut
        obtain ⟨wd, hwd⟩ : ∃ wd, wd = wc := ⟨_, rfl⟩
        rw [← hwd] at R5 K5 ⊢
        clear hwd
        clear x1 x2 x3 x4 x5 x6 x7 x8 F5 CU1 CU2 CM1
        have RA5 := Lib.hid (next0 R4.out R5.out)
        obtain ⟨W8, hW8⟩ : ∃ W8, W8 = wd.alloc (.cells #[.string ⟨#[88]⟩, .string ⟨#[89]⟩, .slice none 0 0, .string ⟨#[89]⟩, .string ⟨#[97]⟩, .slice none 0 0] 52) := ⟨_, rfl⟩
        have D8 : Hid (Below wd.heap.size wd W8) := Lib.hid (by rw [hW8]; exact below_alloc _ _)
        have hs8 : wd.heap.size < W8.heap.size := by rw [hW8]; simp
        have CA2 := Lib.hid (CA1.out W8 (next0 K5.out D8.out) (.slice (some ⟨wd.heap.size, 0, none⟩) 2 2) (sin_two W8 wd.heap.size ⟨#[88]⟩ ⟨#[89]⟩ ⟨#[89]⟩ ⟨#[97]⟩ (by decide) (by decide) (by decide) (by decide) hs8 (by rw [hW8]; exact Has.new _ _ _)))
        obtain ⟨x1, x2, x3, x4, x5, x6, x7, x8⟩ := HH5.out _ K5.out
        have z7 : W8.cell? ⟨w4.heap.size, 0, none⟩ = some (.string ⟨#[112]⟩) := (HH5.out _ (next0 K5.out D8.out)).2.2.2.2.2.2.1
        have z8 : W8.cell? ⟨w4.heap.size, 1, none⟩ = some (.slice pP 2 cP) := (HH5.out _ (next0 K5.out D8.out)).2.2.2.2.2.2.2
        rw [hW8] at z7 z8
        go_wp2_with fail
        rw [← hW8]
        clear hW8 CA1 z7 z8 x1 x2 x3 x4 x5 x6 x7 x8
        refine CA2.out.mono ?_
        rintro e w9 ⟨pT, cT, rfl, sT, b9⟩
        obtain ⟨W10, hW10⟩ : ∃ W10, W10 = w9.alloc (.cells #[.string ⟨#[112]⟩, .slice pT 2 cT] 27) := ⟨_, rfl⟩
        have D10 : Hid (Below wd.heap.size wd W10) := Lib.hid (by rw [hW10]; exact next0 (next0 D8.out b9) (below_alloc _ _))
        have T10 : Hid (Has W10 w9.heap.size #[.string ⟨#[112]⟩, .slice pT 2 cT]) := Lib.hid (by rw [hW10]; exact Has.new _ _ _)
        have ST := Lib.hid (fun w' (k : Below W10.heap.size W10 w') => show SlIn (· < w'.heap.size) w' [tY, tA] (.slice pT 2 cT) from by
          have k4 : Below w9.heap.size w9 w' := by rw [hW10] at k; exact next0 (below_alloc _ _) k
          exact (sT.deep k4 (Nat.le_refl _)).weaken fun b hb => Nat.lt_of_lt_of_le hb k4.size)
        obtain ⟨x1, x2, x3, x4, x5, x6, x7, x8⟩ := HH5.out _ (next0 K5.out D10.out)
        clear sT b9 CA2 D8
        go_upto_region 7 with fail
        rw [← hW10]
        clear hW10
        obtain ⟨W11, hW11⟩ : ∃ W11, W11 = W10.alloc (.cells #[.string ⟨#[88]⟩, .string ⟨#[97]⟩, .slice none 0 0, .string ⟨#[89]⟩, .string ⟨#[97]⟩, .slice none 0 0] 52) := ⟨_, rfl⟩
        have D11 : Hid (Below W10.heap.size W10 W11) := Lib.hid (by rw [hW11]; exact below_alloc _ _)
        have hs11 : W10.heap.size < W11.heap.size := by rw [hW11]; simp
        have SBo := Lib.hid (fun w' (k : Below W11.heap.size W11 w') => sin_two w' W10.heap.size ⟨#[88]⟩ ⟨#[89]⟩ ⟨#[97]⟩ ⟨#[97]⟩ (by decide) (by decide) (by decide) (by decide) (Nat.lt_of_lt_of_le hs11 k.size) (by have h : Has W11 W10.heap.size #[.string ⟨#[88]⟩, .string ⟨#[97]⟩, .slice none 0 0, .string ⟨#[89]⟩, .string ⟨#[97]⟩, .slice none 0 0] := (by rw [hW11]; exact Has.new _ _ _); exact h.step0 k))
        go_upto_region 8 with fail
        rw [← hW11]
        clear hW11 x1 x2 x3 x4 x5 x6 x7 x8
        have K11 := Lib.hid (next0 (next0 K5.out D10.out) D11.out)
        obtain ⟨x1, x2, x3, x4, x5, x6, x7, x8⟩ := HH5.out _ K11.out
        go_wp2_with fail
        refine (CR1.out _ K11.out).mono ?_
        rintro e w12 ⟨pR, cR, rfl, sR, b12⟩
        obtain ⟨W13, hW13⟩ : ∃ W13, W13 = w12.alloc (.cells #[.string ⟨#[112]⟩, .slice pR 2 cR, .slice none 0 0] 34) := ⟨_, rfl⟩
        have D13 : Hid (Below W11.heap.size W11 W13) := Lib.hid (by rw [hW13]; exact next0 b12 (below_alloc _ _))
        have R13 : Hid (Has W13 w12.heap.size #[.string ⟨#[112]⟩, .slice pR 2 cR, .slice none 0 0]) := Lib.hid (by rw [hW13]; exact Has.new _ _ _)
        have SR := Lib.hid (fun w' (k : Below W13.heap.size W13 w') => show SlIn (· < w'.heap.size) w' [.mk ⟨#[86, 49]⟩ [], .mk ⟨#[86, 50]⟩ []] (.slice pR 2 cR) from by
          have k4 : Below w12.heap.size w12 w' := by rw [hW13] at k; exact next0 (below_alloc _ _) k
          exact (sR.deep k4 (Nat.le_refl _)).weaken fun b hb => Nat.lt_of_lt_of_le hb k4.size)
        have KA := Lib.hid (next0 (next0 RA5.out (next0 D10.out D11.out)) D13.out)
        have KB9 := Lib.hid (next0 (next0 R5.out (next0 D10.out D11.out)) D13.out)
        have K13 := Lib.hid (next0 K11.out D13.out)
        have D1013 := Lib.hid (next0 D11.out D13.out)
        clear sR b12 x1 x2 x3 x4 x5 x6 x7 x8 CR1
        go_upto_region 9 with fail
        rw [← hW13]
        clear hW13
        have CS1 := Lib.hid (fun w' (k : Below W13.heap.size W13 w') => same_any both both true (by simp) w'.heap.size w' u5 (.slice (some ⟨W10.heap.size, 0, none⟩) 2 2) (Nat.le_refl _) ((SA.out.deep (next0 KA.out k) (Nat.le_refl _)).wide fun b hb => Nat.lt_of_lt_of_le hb (next0 KA.out k).size) (SBo.out w' (next0 D13.out k)))
        have CS2 := Lib.hid (fun w' (k : Below W13.heap.size W13 w') => same_any both both true (by simp) w'.heap.size w' u7 (.slice (some ⟨W10.heap.size, 0, none⟩) 2 2) (Nat.le_refl _) ((SB.out.deep (next0 KB9.out k) (Nat.le_refl _)).wide fun b hb => Nat.lt_of_lt_of_le hb (next0 KB9.out k).size) (SBo.out w' (next0 D13.out k)))
        have CV1 := Lib.hid (fun w' (k : Below W13.heap.size W13 w') => cvalid_any both w'.heap.size w' (.slice (some ⟨W10.heap.size, 0, none⟩) 2 2) (Nat.le_refl _) (SBo.out w' (next0 D13.out k)))
        rw [d1] at CV1
        have CT1 := Lib.hid (fun w' q d (k : Below W13.heap.size W13 w') h => c_t [tY, tA] ⟨#[112]⟩ rfl w' pT q cT d (ST.out w' (next0 D1013.out k)) h)
        have CT2 := Lib.hid (fun w' q d (k : Below W13.heap.size W13 w') h => c_t [.mk ⟨#[86, 49]⟩ [], .mk ⟨#[86, 50]⟩ []] ⟨#[112]⟩ rfl w' pR q cR d (SR.out w' k) h)
        have F7 := Lib.hid (fun w' => c_f ⟨#[112]⟩ ⟨#[89]⟩ ⟨#[97]⟩ (by decide) (by decide) w')
        have F8 := Lib.hid (fun w' => c_f ⟨#[112]⟩ ⟨#[86, 49]⟩ ⟨#[86, 50]⟩ (by decide) (by decide) w')
        unfold TwR at F7 F8
        have Hb := Lib.hid (fun w' (k : Below W13.heap.size W13 w') => show w'.cell? ⟨w9.heap.size, 0, none⟩ = some (.string ⟨#[112]⟩) ∧ w'.cell? ⟨w9.heap.size, 1, none⟩ = some (.slice pT 2 cT) ∧ w'.cell? ⟨w.heap.size + 1 + 1, 0, none⟩ = some (.string ⟨#[89]⟩) ∧ w'.cell? ⟨w.heap.size + 1 + 1, 1, none⟩ = some (.slice none 0 0) ∧ w'.cell? ⟨w.heap.size, 0, none⟩ = some (.string ⟨#[97]⟩) ∧ w'.cell? ⟨w.heap.size, 1, none⟩ = some (.slice none 0 0) ∧ w'.cell? ⟨w12.heap.size, 0, none⟩ = some (.string ⟨#[112]⟩) ∧ w'.cell? ⟨w12.heap.size, 1, none⟩ = some (.slice pR 2 cR) ∧ Hid (Below W13.heap.size W13 w') from by
          obtain ⟨x1, x2, x3, x4, x5, x6, x7, x8⟩ := HH5.out _ (next0 K13.out k)
          obtain ⟨t1, t2, _⟩ := (T10.out.step0 (next0 D1013.out k)).two
          obtain ⟨r1, r2, r3⟩ := three (R13.out.step0 k)
          exact ⟨t1, t2, x5, x6, x1, x2, r1, r2, Lib.hid k⟩)
        have FIN := Lib.hid (fun w' (k : Below W13.heap.size W13 w') => next0 (next0 BW.out K13.out) k)
        have hs0 := Hb.out _ (Below.refl W13.heap.size W13).drew
        clear SA SB SBo ST SR HH5 T10 R13 RA5 KA KB9 K13 D1013 D13 K11 D11 D10 K5 R5 R4 K4 K3 BW hs11
        refine wp_region_held_drew (S := (fun w' => w'.cell? ⟨w9.heap.size, 0, none⟩ = some (.string ⟨#[112]⟩) ∧ w'.cell? ⟨w9.heap.size, 1, none⟩ = some (.slice pT 2 cT) ∧ w'.cell? ⟨w.heap.size + 1 + 1, 0, none⟩ = some (.string ⟨#[89]⟩) ∧ w'.cell? ⟨w.heap.size + 1 + 1, 1, none⟩ = some (.slice none 0 0) ∧ w'.cell? ⟨w.heap.size, 0, none⟩ = some (.string ⟨#[97]⟩) ∧ w'.cell? ⟨w.heap.size, 1, none⟩ = some (.slice none 0 0) ∧ w'.cell? ⟨w12.heap.size, 0, none⟩ = some (.string ⟨#[112]⟩) ∧ w'.cell? ⟨w12.heap.size, 1, none⟩ = some (.slice pR 2 cR) ∧ Hid (Below W13.heap.size W13 w'))) (by kernel_rfl) hs0 (fun hHeld => ?_)
        refine wpAnyH_take (i := 0) (v := ?_) rfl (by kernel_rfl) (by kernel_rfl) (by kernel_rfl) (fun _ _ _ h => h) (Or.inl ⟨by rfl, ?_⟩) (by assumption) ?_
        rotate_left
        · intro w' hSw; (try dsimp only at hSw); (try simp only [List.getElem_toArray, List.getElem_cons_zero]); go_simp; try with_reducible rfl
        (try simp only [List.getElem_toArray, List.getElem_cons_zero, Act.put, List.setIfInBounds_toArray, List.set_cons_zero, List.set_cons_succ])
        refine wpAnyH_take (i := 1) (v := ?_) rfl (by kernel_rfl) (by kernel_rfl) (by kernel_rfl) (fun _ _ _ h => h) (Or.inl ⟨by rfl, ?_⟩) (by assumption) ?_
        rotate_left
        · intro w' hSw; (try dsimp only at hSw); (try simp only [List.getElem_toArray, List.getElem_cons_zero, List.getElem_cons_succ]); go_simp; try with_reducible rfl
        (try simp only [List.getElem_toArray, List.getElem_cons_zero, List.getElem_cons_succ, Act.put, List.setIfInBounds_toArray, List.set_cons_zero, List.set_cons_succ])
        refine wpAnyH_take (i := 2) (v := ?_) rfl (by kernel_rfl) (by kernel_rfl) (by kernel_rfl) (fun _ _ _ h => h) (Or.inl ⟨by rfl, ?_⟩) (by assumption) ?_
        rotate_left
        · intro w' hSw; (try dsimp only at hSw); (try simp only [List.getElem_toArray, List.getElem_cons_zero, List.getElem_cons_succ]); go_simp; try with_reducible rfl
        (try simp only [List.getElem_toArray, List.getElem_cons_zero, List.getElem_cons_succ, Act.put, List.setIfInBounds_toArray, List.set_cons_zero, List.set_cons_succ])
        refine wpAnyH_take (i := 3) (v := ?_) rfl (by kernel_rfl) (by kernel_rfl) (by kernel_rfl) (fun _ _ _ h => h) (Or.inl ⟨by rfl, ?_⟩) (by assumption) ?_
        rotate_left
        · intro w' hSw; (try dsimp only at hSw); (try simp only [List.getElem_toArray, List.getElem_cons_zero, List.getElem_cons_succ]); go_simp; try with_reducible rfl
        (try simp only [List.getElem_toArray, List.getElem_cons_zero, List.getElem_cons_succ, Act.put, List.setIfInBounds_toArray, List.set_cons_zero, List.set_cons_succ])
        refine wpAnyH_ready (rs := [4]) (by kernel_rfl) (by simp) ?_
        refine AllReadyH.cons rfl (fun K hK => ?_) AllReadyH.nil
        go_simp
        (try go_split_ands)
        go_at_call 28
        (try go_split_ands)
        (with_reducible refine (CS1.out _ (by repeat (first | (with_reducible exact Hid.out (by assumption)) | (with_reducible exact Below.refl _ _) | (with_reducible refine Below.drew ?_)))).mono ?_)
        rintro e w' ⟨rfl, q0⟩
        (have qg : Below W13.heap.size W13 w' := by (refine next0 ?_ q0.1; repeat (first | (with_reducible exact Hid.out (by assumption)) | (with_reducible exact Below.refl _ _) | (with_reducible refine Below.drew ?_))))
        clear q0
        refine hK.out _ _ (Hb.out _ qg) (fun hHeld => ?_)
        clear hK K
        (try simp only [List.getElem_toArray, List.getElem_cons_zero, List.getElem_cons_succ, Act.put, List.setIfInBounds_toArray, List.set_cons_zero, List.set_cons_succ])
        refine wpAnyH_take (i := 5) (v := ?_) rfl (by kernel_rfl) (by kernel_rfl) (by kernel_rfl) (fun _ _ _ h => h) (Or.inl ⟨by rfl, ?_⟩) (by assumption) ?_
        rotate_left
        · intro w' hSw; (try dsimp only at hSw); (try simp only [List.getElem_toArray, List.getElem_cons_zero, List.getElem_cons_succ]); go_simp; try with_reducible rfl
        (try simp only [List.getElem_toArray, List.getElem_cons_zero, List.getElem_cons_succ, Act.put, List.setIfInBounds_toArray, List.set_cons_zero, List.set_cons_succ])
        refine wpAnyH_take (i := 6) (v := ?_) rfl (by kernel_rfl) (by kernel_rfl) (by kernel_rfl) (fun _ _ _ h => h) (Or.inl ⟨by rfl, ?_⟩) (by assumption) ?_
        rotate_left
        · intro w' hSw; (try dsimp only at hSw); (try simp only [List.getElem_toArray, List.getElem_cons_zero, List.getElem_cons_succ]); go_simp; try with_reducible rfl
        (try simp only [List.getElem_toArray, List.getElem_cons_zero, List.getElem_cons_succ, Act.put, List.setIfInBounds_toArray, List.set_cons_zero, List.set_cons_succ])
        refine wpAnyH_take (i := 7) (v := ?_) rfl (by kernel_rfl) (by kernel_rfl) (by kernel_rfl) (fun _ _ _ h => h) (Or.inl ⟨by rfl, ?_⟩) (by assumption) ?_
        rotate_left
        · intro w' hSw; (try dsimp only at hSw); (try simp only [List.getElem_toArray, List.getElem_cons_zero, List.getElem_cons_succ]); go_simp; try with_reducible rfl
        (try simp only [List.getElem_toArray, List.getElem_cons_zero, List.getElem_cons_succ, Act.put, List.setIfInBounds_toArray, List.set_cons_zero, List.set_cons_succ])
        refine wpAnyH_take (i := 8) (v := ?_) rfl (by kernel_rfl) (by kernel_rfl) (by kernel_rfl) (fun _ _ _ h => h) (Or.inl ⟨by rfl, ?_⟩) (by assumption) ?_
        rotate_left
        · intro w' hSw; (try dsimp only at hSw); (try simp only [List.getElem_toArray, List.getElem_cons_zero, List.getElem_cons_succ]); go_simp; try with_reducible rfl
        (try simp only [List.getElem_toArray, List.getElem_cons_zero, List.getElem_cons_succ, Act.put, List.setIfInBounds_toArray, List.set_cons_zero, List.set_cons_succ])
        refine wpAnyH_take (i := 9) (v := ?_) rfl (by kernel_rfl) (by kernel_rfl) (by kernel_rfl) (fun _ _ _ h => h) (Or.inl ⟨by rfl, ?_⟩) (by assumption) ?_
        rotate_left
        · intro w' hSw; (try dsimp only at hSw); (try simp only [List.getElem_toArray, List.getElem_cons_zero, List.getElem_cons_succ]); go_simp; try with_reducible rfl
        (try simp only [List.getElem_toArray, List.getElem_cons_zero, List.getElem_cons_succ, Act.put, List.setIfInBounds_toArray, List.set_cons_zero, List.set_cons_succ])
        refine wpAnyH_take (i := 10) (v := ?_) rfl (by kernel_rfl) (by kernel_rfl) (by kernel_rfl) (fun _ _ _ h => h) (Or.inl ⟨by rfl, ?_⟩) (by assumption) ?_
        rotate_left
        · intro w' hSw; (try dsimp only at hSw); (try simp only [List.getElem_toArray, List.getElem_cons_zero, List.getElem_cons_succ]); go_simp; try with_reducible rfl
        (try simp only [List.getElem_toArray, List.getElem_cons_zero, List.getElem_cons_succ, Act.put, List.setIfInBounds_toArray, List.set_cons_zero, List.set_cons_succ])
        refine wpAnyH_take (i := 11) (v := ?_) rfl (by kernel_rfl) (by kernel_rfl) (by kernel_rfl) (fun _ _ _ h => h) (Or.inl ⟨by rfl, ?_⟩) (by assumption) ?_
        rotate_left
        · intro w' hSw; (try dsimp only at hSw); (try simp only [List.getElem_toArray, List.getElem_cons_zero, List.getElem_cons_succ]); go_simp; try with_reducible rfl
        (try simp only [List.getElem_toArray, List.getElem_cons_zero, List.getElem_cons_succ, Act.put, List.setIfInBounds_toArray, List.set_cons_zero, List.set_cons_succ])
        refine wpAnyH_ready (rs := [12]) (by kernel_rfl) (by simp) ?_
        refine AllReadyH.cons rfl (fun K hK => ?_) AllReadyH.nil
        go_simp
        (try go_split_ands)
        go_at_call 28
        (try go_split_ands)
        (with_reducible refine (CS2.out _ (by repeat (first | (with_reducible exact Hid.out (by assumption)) | (with_reducible exact Below.refl _ _) | (with_reducible refine Below.drew ?_)))).mono ?_)
        rintro e w' ⟨rfl, q0⟩
        (have qg : Below W13.heap.size W13 w' := by (refine next0 ?_ q0.1; repeat (first | (with_reducible exact Hid.out (by assumption)) | (with_reducible exact Below.refl _ _) | (with_reducible refine Below.drew ?_))))
        clear q0
        refine hK.out _ _ (Hb.out _ qg) (fun hHeld => ?_)
        clear hK K
        (try simp only [List.getElem_toArray, List.getElem_cons_zero, List.getElem_cons_succ, Act.put, List.setIfInBounds_toArray, List.set_cons_zero, List.set_cons_succ])
        refine wpAnyH_take (i := 13) (v := ?_) rfl (by kernel_rfl) (by kernel_rfl) (by kernel_rfl) (fun _ _ _ h => h) (Or.inl ⟨by rfl, ?_⟩) (by assumption) ?_
        rotate_left
        · intro w' hSw; (try dsimp only at hSw); (try simp only [List.getElem_toArray, List.getElem_cons_zero, List.getElem_cons_succ]); go_simp; try with_reducible rfl
        (try simp only [List.getElem_toArray, List.getElem_cons_zero, List.getElem_cons_succ, Act.put, List.setIfInBounds_toArray, List.set_cons_zero, List.set_cons_succ])
        refine wpAnyH_take (i := 14) (v := ?_) rfl (by kernel_rfl) (by kernel_rfl) (by kernel_rfl) (fun _ _ _ h => h) (Or.inl ⟨by rfl, ?_⟩) (by assumption) ?_
        rotate_left
        · intro w' hSw; (try dsimp only at hSw); (try simp only [List.getElem_toArray, List.getElem_cons_zero, List.getElem_cons_succ]); go_simp; try with_reducible rfl
        (try simp only [List.getElem_toArray, List.getElem_cons_zero, List.getElem_cons_succ, Act.put, List.setIfInBounds_toArray, List.set_cons_zero, List.set_cons_succ])
        refine wpAnyH_take (i := 15) (v := ?_) rfl (by kernel_rfl) (by kernel_rfl) (by kernel_rfl) (fun _ _ _ h => h) (Or.inl ⟨by rfl, ?_⟩) (by assumption) ?_
        rotate_left
        · intro w' hSw; (try dsimp only at hSw); (try simp only [List.getElem_toArray, List.getElem_cons_zero, List.getElem_cons_succ]); go_simp; try with_reducible rfl
        (try simp only [List.getElem_toArray, List.getElem_cons_zero, List.getElem_cons_succ, Act.put, List.setIfInBounds_toArray, List.set_cons_zero, List.set_cons_succ])
        refine wpAnyH_take (i := 16) (v := ?_) rfl (by kernel_rfl) (by kernel_rfl) (by kernel_rfl) (fun _ _ _ h => h) (Or.inl ⟨by rfl, ?_⟩) (by assumption) ?_
        rotate_left
        · intro w' hSw; (try dsimp only at hSw); (try simp only [List.getElem_toArray, List.getElem_cons_zero, List.getElem_cons_succ]); go_simp; try with_reducible rfl
        (try simp only [List.getElem_toArray, List.getElem_cons_zero, List.getElem_cons_succ, Act.put, List.setIfInBounds_toArray, List.set_cons_zero, List.set_cons_succ])
        refine wpAnyH_take (i := 17) (v := ?_) rfl (by kernel_rfl) (by kernel_rfl) (by kernel_rfl) (fun _ _ _ h => h) (Or.inl ⟨by rfl, ?_⟩) (by assumption) ?_
        rotate_left
        · intro w' hSw; (try dsimp only at hSw); (try simp only [List.getElem_toArray, List.getElem_cons_zero, List.getElem_cons_succ]); go_simp; try with_reducible rfl
        (try simp only [List.getElem_toArray, List.getElem_cons_zero, List.getElem_cons_succ, Act.put, List.setIfInBounds_toArray, List.set_cons_zero, List.set_cons_succ])
        refine wpAnyH_take (i := 18) (v := ?_) rfl (by kernel_rfl) (by kernel_rfl) (by kernel_rfl) (fun _ _ _ h => h) (Or.inl ⟨by rfl, ?_⟩) (by assumption) ?_
        rotate_left
        · intro w' hSw; (try dsimp only at hSw); (try simp only [List.getElem_toArray, List.getElem_cons_zero, List.getElem_cons_succ]); go_simp; try with_reducible rfl
        (try simp only [List.getElem_toArray, List.getElem_cons_zero, List.getElem_cons_succ, Act.put, List.setIfInBounds_toArray, List.set_cons_zero, List.set_cons_succ])
        refine wpAnyH_take (i := 19) (v := ?_) rfl (by kernel_rfl) (by kernel_rfl) (by kernel_rfl) (fun _ _ _ h => h) (Or.inl ⟨by rfl, ?_⟩) (by assumption) ?_
        rotate_left
        · intro w' hSw; (try dsimp only at hSw); (try simp only [List.getElem_toArray, List.getElem_cons_zero, List.getElem_cons_succ]); go_simp; try with_reducible rfl
        (try simp only [List.getElem_toArray, List.getElem_cons_zero, List.getElem_cons_succ, Act.put, List.setIfInBounds_toArray, List.set_cons_zero, List.set_cons_succ])
        refine wpAnyH_take (i := 20) (v := ?_) rfl (by kernel_rfl) (by kernel_rfl) (by kernel_rfl) (fun _ _ _ h => h) (Or.inl ⟨by rfl, ?_⟩) (by assumption) ?_
        rotate_left
        · intro w' hSw; (try dsimp only at hSw); (try simp only [List.getElem_toArray, List.getElem_cons_zero, List.getElem_cons_succ]); go_simp; try with_reducible rfl
        (try simp only [List.getElem_toArray, List.getElem_cons_zero, List.getElem_cons_succ, Act.put, List.setIfInBounds_toArray, List.set_cons_zero, List.set_cons_succ])
        refine wpAnyH_take (i := 21) (v := ?_) rfl (by kernel_rfl) (by kernel_rfl) (by kernel_rfl) (fun _ _ _ h => h) (Or.inl ⟨by rfl, ?_⟩) (by assumption) ?_
        rotate_left
        · intro w' hSw; (try dsimp only at hSw); (try simp only [List.getElem_toArray, List.getElem_cons_zero, List.getElem_cons_succ]); go_simp; try with_reducible rfl
        (try simp only [List.getElem_toArray, List.getElem_cons_zero, List.getElem_cons_succ, Act.put, List.setIfInBounds_toArray, List.set_cons_zero, List.set_cons_succ])
        refine wpAnyH_ready (rs := [22]) (by kernel_rfl) (by simp) ?_
        refine AllReadyH.cons rfl (fun K hK => ?_) AllReadyH.nil
        go_simp
        (try go_split_ands)
        go_at_call 37
        (try go_split_ands)
        (with_reducible refine (F7.out _).mono ?_)
        rintro e w' ⟨q22, d22, rfl, s9, q0⟩
        have S22 := Lib.hid s9
        (have qg : Below W13.heap.size W13 w' := by (refine next0 ?_ q0; repeat (first | (with_reducible exact Hid.out (by assumption)) | (with_reducible exact Below.refl _ _) | (with_reducible refine Below.drew ?_))))
        have Q22 := Lib.hid qg
        clear q0 s9
        refine hK.out _ _ (Hb.out _ qg) (fun hHeld => ?_)
        clear hK K
        (try simp only [List.getElem_toArray, List.getElem_cons_zero, List.getElem_cons_succ, Act.put, List.setIfInBounds_toArray, List.set_cons_zero, List.set_cons_succ])
        refine wpAnyH_ready (rs := [23]) (by kernel_rfl) (by simp) ?_
        refine AllReadyH.cons rfl (fun K hK => ?_) AllReadyH.nil
        go_simp
        (try go_split_ands)
        go_at_call 18
        (try go_split_ands)
        (with_reducible refine (CT1.out _ _ _ Q22.out S22.out).mono ?_)
        rintro e w' ⟨rfl, q0⟩
        (have qg : Below W13.heap.size W13 w' := next0 Q22.out q0.1)
        clear q0
        refine hK.out _ _ (Hb.out _ qg) (fun hHeld => ?_)
        clear hK K
        (try simp only [List.getElem_toArray, List.getElem_cons_zero, List.getElem_cons_succ, Act.put, List.setIfInBounds_toArray, List.set_cons_zero, List.set_cons_succ])
        refine wpAnyH_take (i := 24) (v := ?_) rfl (by kernel_rfl) (by kernel_rfl) (by kernel_rfl) (fun _ _ _ h => h) (Or.inl ⟨by rfl, ?_⟩) (by assumption) ?_
        rotate_left
        · intro w' hSw; (try dsimp only at hSw); (try simp only [List.getElem_toArray, List.getElem_cons_zero, List.getElem_cons_succ]); go_simp; try with_reducible rfl
        (try simp only [List.getElem_toArray, List.getElem_cons_zero, List.getElem_cons_succ, Act.put, List.setIfInBounds_toArray, List.set_cons_zero, List.set_cons_succ])
        refine wpAnyH_take (i := 25) (v := ?_) rfl (by kernel_rfl) (by kernel_rfl) (by kernel_rfl) (fun _ _ _ h => h) (Or.inl ⟨by rfl, ?_⟩) (by assumption) ?_
        rotate_left
        · intro w' hSw; (try dsimp only at hSw); (try simp only [List.getElem_toArray, List.getElem_cons_zero, List.getElem_cons_succ]); go_simp; try with_reducible rfl
        (try simp only [List.getElem_toArray, List.getElem_cons_zero, List.getElem_cons_succ, Act.put, List.setIfInBounds_toArray, List.set_cons_zero, List.set_cons_succ])
        refine wpAnyH_take (i := 26) (v := ?_) rfl (by kernel_rfl) (by kernel_rfl) (by kernel_rfl) (fun _ _ _ h => h) (Or.inl ⟨by rfl, ?_⟩) (by assumption) ?_
        rotate_left
        · intro w' hSw; (try dsimp only at hSw); (try simp only [List.getElem_toArray, List.getElem_cons_zero, List.getElem_cons_succ]); go_simp; try with_reducible rfl
        (try simp only [List.getElem_toArray, List.getElem_cons_zero, List.getElem_cons_succ, Act.put, List.setIfInBounds_toArray, List.set_cons_zero, List.set_cons_succ])
        refine wpAnyH_ready (rs := [27]) (by kernel_rfl) (by simp) ?_
        refine AllReadyH.cons rfl (fun K hK => ?_) AllReadyH.nil
        go_simp
        (try go_split_ands)
        go_at_call 15
        (try go_split_ands)
        (with_reducible refine (CV1.out _ (by repeat (first | (with_reducible exact Hid.out (by assumption)) | (with_reducible exact Below.refl _ _) | (with_reducible refine Below.drew ?_)))).mono ?_)
        rintro e w' ⟨rfl, q0⟩
        (have qg : Below W13.heap.size W13 w' := by (refine next0 ?_ q0.1; repeat (first | (with_reducible exact Hid.out (by assumption)) | (with_reducible exact Below.refl _ _) | (with_reducible refine Below.drew ?_))))
        clear q0
        refine hK.out _ _ (Hb.out _ qg) (fun hHeld => ?_)
        clear hK K
        (try simp only [List.getElem_toArray, List.getElem_cons_zero, List.getElem_cons_succ, Act.put, List.setIfInBounds_toArray, List.set_cons_zero, List.set_cons_succ])
        refine wpAnyH_take (i := 28) (v := ?_) rfl (by kernel_rfl) (by kernel_rfl) (by kernel_rfl) (fun _ _ _ h => h) (Or.inl ⟨by rfl, ?_⟩) (by assumption) ?_
        rotate_left
        · intro w' hSw; (try dsimp only at hSw); (try simp only [List.getElem_toArray, List.getElem_cons_zero, List.getElem_cons_succ]); go_simp; try with_reducible rfl
        (try simp only [List.getElem_toArray, List.getElem_cons_zero, List.getElem_cons_succ, Act.put, List.setIfInBounds_toArray, List.set_cons_zero, List.set_cons_succ])
        refine wpAnyH_take (i := 29) (v := ?_) rfl (by kernel_rfl) (by kernel_rfl) (by kernel_rfl) (fun _ _ _ h => h) (Or.inl ⟨by rfl, ?_⟩) (by assumption) ?_
        rotate_left
        · intro w' hSw; (try dsimp only at hSw); (try simp only [List.getElem_toArray, List.getElem_cons_zero, List.getElem_cons_succ]); go_simp; try with_reducible rfl
        (try simp only [List.getElem_toArray, List.getElem_cons_zero, List.getElem_cons_succ, Act.put, List.setIfInBounds_toArray, List.set_cons_zero, List.set_cons_succ])
        refine wpAnyH_take (i := 30) (v := ?_) rfl (by kernel_rfl) (by kernel_rfl) (by kernel_rfl) (fun _ _ _ h => h) (Or.inl ⟨by rfl, ?_⟩) (by assumption) ?_
        rotate_left
        · intro w' hSw; (try dsimp only at hSw); (try simp only [List.getElem_toArray, List.getElem_cons_zero, List.getElem_cons_succ]); go_simp; try with_reducible rfl
        (try simp only [List.getElem_toArray, List.getElem_cons_zero, List.getElem_cons_succ, Act.put, List.setIfInBounds_toArray, List.set_cons_zero, List.set_cons_succ])
        refine wpAnyH_take (i := 31) (v := ?_) rfl (by kernel_rfl) (by kernel_rfl) (by kernel_rfl) (fun _ _ _ h => h) (Or.inl ⟨by rfl, ?_⟩) (by assumption) ?_
        rotate_left
        · intro w' hSw; (try dsimp only at hSw); (try simp only [List.getElem_toArray, List.getElem_cons_zero, List.getElem_cons_succ]); go_simp; try with_reducible rfl
        (try simp only [List.getElem_toArray, List.getElem_cons_zero, List.getElem_cons_succ, Act.put, List.setIfInBounds_toArray, List.set_cons_zero, List.set_cons_succ])
        refine wpAnyH_take (i := 32) (v := ?_) rfl (by kernel_rfl) (by kernel_rfl) (by kernel_rfl) (fun _ _ _ h => h) (Or.inl ⟨by rfl, ?_⟩) (by assumption) ?_
        rotate_left
        · intro w' hSw; (try dsimp only at hSw); (try simp only [List.getElem_toArray, List.getElem_cons_zero, List.getElem_cons_succ]); go_simp; try with_reducible rfl
        (try simp only [List.getElem_toArray, List.getElem_cons_zero, List.getElem_cons_succ, Act.put, List.setIfInBounds_toArray, List.set_cons_zero, List.set_cons_succ])
        refine wpAnyH_take (i := 33) (v := ?_) rfl (by kernel_rfl) (by kernel_rfl) (by kernel_rfl) (fun _ _ _ h => h) (Or.inl ⟨by rfl, ?_⟩) (by assumption) ?_
        rotate_left
        · intro w' hSw; (try dsimp only at hSw); (try simp only [List.getElem_toArray, List.getElem_cons_zero, List.getElem_cons_succ]); go_simp; try with_reducible rfl
        (try simp only [List.getElem_toArray, List.getElem_cons_zero, List.getElem_cons_succ, Act.put, List.setIfInBounds_toArray, List.set_cons_zero, List.set_cons_succ])
        refine wpAnyH_take (i := 34) (v := ?_) rfl (by kernel_rfl) (by kernel_rfl) (by kernel_rfl) (fun _ _ _ h => h) (Or.inl ⟨by rfl, ?_⟩) (by assumption) ?_
        rotate_left
        · intro w' hSw; (try dsimp only at hSw); (try simp only [List.getElem_toArray, List.getElem_cons_zero, List.getElem_cons_succ]); go_simp; try with_reducible rfl
        (try simp only [List.getElem_toArray, List.getElem_cons_zero, List.getElem_cons_succ, Act.put, List.setIfInBounds_toArray, List.set_cons_zero, List.set_cons_succ])
        refine wpAnyH_take (i := 35) (v := ?_) rfl (by kernel_rfl) (by kernel_rfl) (by kernel_rfl) (fun _ _ _ h => h) (Or.inl ⟨by rfl, ?_⟩) (by assumption) ?_
        rotate_left
        · intro w' hSw; (try dsimp only at hSw); (try simp only [List.getElem_toArray, List.getElem_cons_zero, List.getElem_cons_succ]); go_simp; try with_reducible rfl
        (try simp only [List.getElem_toArray, List.getElem_cons_zero, List.getElem_cons_succ, Act.put, List.setIfInBounds_toArray, List.set_cons_zero, List.set_cons_succ])
        refine wpAnyH_take (i := 36) (v := ?_) rfl (by kernel_rfl) (by kernel_rfl) (by kernel_rfl) (fun _ _ _ h => h) (Or.inl ⟨by rfl, ?_⟩) (by assumption) ?_
        rotate_left
        · intro w' hSw; (try dsimp only at hSw); (try simp only [List.getElem_toArray, List.getElem_cons_zero, List.getElem_cons_succ]); go_simp; try with_reducible rfl
        (try simp only [List.getElem_toArray, List.getElem_cons_zero, List.getElem_cons_succ, Act.put, List.setIfInBounds_toArray, List.set_cons_zero, List.set_cons_succ])
        refine wpAnyH_ready (rs := [37]) (by kernel_rfl) (by simp) ?_
        refine AllReadyH.cons rfl (fun K hK => ?_) AllReadyH.nil
        go_simp
        (try go_split_ands)
        go_at_call 37
        (try go_split_ands)
        (with_reducible refine (F8.out _).mono ?_)
        rintro e w' ⟨q37, d37, rfl, s9, q0⟩
        have S37 := Lib.hid s9
        (have qg : Below W13.heap.size W13 w' := by (refine next0 ?_ q0; repeat (first | (with_reducible exact Hid.out (by assumption)) | (with_reducible exact Below.refl _ _) | (with_reducible refine Below.drew ?_))))
        have Q37 := Lib.hid qg
        clear q0 s9
        refine hK.out _ _ (Hb.out _ qg) (fun hHeld => ?_)
        clear hK K
        (try simp only [List.getElem_toArray, List.getElem_cons_zero, List.getElem_cons_succ, Act.put, List.setIfInBounds_toArray, List.set_cons_zero, List.set_cons_succ])
        refine wpAnyH_ready (rs := [38]) (by kernel_rfl) (by simp) ?_
        refine AllReadyH.cons rfl (fun K hK => ?_) AllReadyH.nil
        go_simp
        (try go_split_ands)
        go_at_call 18
        (try go_split_ands)
        (with_reducible refine (CT2.out _ _ _ Q37.out S37.out).mono ?_)
        rintro e w' ⟨rfl, q0⟩
        (have qg : Below W13.heap.size W13 w' := next0 Q37.out q0.1)
        clear q0
        refine hK.out _ _ (Hb.out _ qg) (fun hHeld => ?_)
        clear hK K
        (try simp only [List.getElem_toArray, List.getElem_cons_zero, List.getElem_cons_succ, Act.put, List.setIfInBounds_toArray, List.set_cons_zero, List.set_cons_succ])
        refine wpAnyH_take (i := 39) (v := ?_) rfl (by kernel_rfl) (by kernel_rfl) (by kernel_rfl) (fun _ _ _ h => h) (Or.inl ⟨by rfl, ?_⟩) (by assumption) ?_
        rotate_left
        · intro w' hSw; (try dsimp only at hSw); (try simp only [List.getElem_toArray, List.getElem_cons_zero, List.getElem_cons_succ]); go_simp; try with_reducible rfl
        (try simp only [List.getElem_toArray, List.getElem_cons_zero, List.getElem_cons_succ, Act.put, List.setIfInBounds_toArray, List.set_cons_zero, List.set_cons_succ])
        refine wpAnyH_take (i := 40) (v := ?_) rfl (by kernel_rfl) (by kernel_rfl) (by kernel_rfl) (fun _ _ _ h => h) (Or.inl ⟨by rfl, ?_⟩) (by assumption) ?_
        rotate_left
        · intro w' hSw; (try dsimp only at hSw); (try simp only [List.getElem_toArray, List.getElem_cons_zero, List.getElem_cons_succ]); go_simp; try with_reducible rfl
        (try simp only [List.getElem_toArray, List.getElem_cons_zero, List.getElem_cons_succ, Act.put, List.setIfInBounds_toArray, List.set_cons_zero])
        refine wpAnyH_done (by kernel_rfl) ?_ _
        go_wp2_with fail
        go_ret
        exact ⟨rfl, FIN.out _ qg⟩
end UnmL
end Go.Proofs.YtihbnonbhelbmaaGreatDoor
