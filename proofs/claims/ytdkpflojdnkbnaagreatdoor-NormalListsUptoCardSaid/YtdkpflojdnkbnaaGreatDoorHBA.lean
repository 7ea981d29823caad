/- Texts laid together: UnqB. Their own heads stand before each. -/
import Derived.Test.YtdkpflojdnkbnaaGreatDoorHAS
import Derived.Test.YtdkpflojdnkbnaaGreatDoorHAJ
import Derived.Test.YtdkpflojdnkbnaaGreatDoorHAW
import Derived.Test.YtdkpflojdnkbnaaGreatDoorHAQ
import Derived.Deep.RegionHeld3
import Derived.Deep.DeepCutAuto
/- replaceInRule of the code: a rule's head and the atoms of its body, replaced. Made by genrule.py. Conditions: at most a thousand literals; what is called for each term answers. -/
namespace Go.Proofs.YtdkpflojdnkbnaaGreatDoor
open Go Go.RowKit
namespace UnqB
open LexM TermM TermI Kit TermN TermU UniK UniM UniA UniD UniE UniF UniG UniR UnmH LigG LigU LigY UnqA
/-- What is called for a term leaves: a term whose lists lie in blocks of the kind or in new ones. -/
def RpX (ok0 : Nat → Prop) (u : Tm) (w : World) (e : Ending) (w' : World) : Prop :=
  ∃ (q : Option Addr) (d : Nat), e = .returned (.agg #[.string u.nm, .slice q u.args.length d]) ∧ SlIn (fun b => ok0 b ∨ (w.heap.size ≤ b ∧ b < w'.heap.size)) w' u.args (.slice q u.args.length d) ∧ u.nm.size ≤ maxLen ∧ Below w.heap.size w w'
theorem okx1 {ok0 : Nat → Prop} {a lo hi c : Nat} (h : ∀ b, ok0 b → b < a) (h1 : a ≤ c) (h2 : hi ≤ c) : ∀ b, (ok0 b ∨ (lo ≤ b ∧ b < hi)) → b < c := fun b hb => hb.elim (fun h0 => Nat.lt_of_lt_of_le (h b h0) h1) fun h => Nat.lt_of_lt_of_le h.2 h2
theorem okx2 {ok0 : Nat → Prop} {a R lo hi c : Nat} {v : Value} (h : ∀ b, ok0 b → b < a) (h1 : a ≤ R) (h2 : R + 1 ≤ lo) (h3 : a ≤ c) (h4 : hi ≤ c) (hv : ∀ k, v.ownBlock = some k → R + 1 ≤ k ∧ k < lo) : ∀ b, (ok0 b ∨ (lo ≤ b ∧ b < hi)) → (ok0 b ∨ R + 1 ≤ b) ∧ b < c ∧ v.ownBlock ≠ some b := fun b hb => by
  rcases hb with hb | hb
  · have := h b hb
    exact ⟨Or.inl hb, by omega, fun e => by have := hv b e; omega⟩
  · exact ⟨Or.inr (by omega), by omega, fun e => by have := hv b e; omega⟩
theorem next9 {ex : Nat → Prop} {a b c : World} (h : Below a.heap.size a b) (g : Lt ex b c) (hx : ∀ i, ex i → a.heap.size ≤ i) : Below a.heap.size a c := h.trans (g.toBelow h.size hx)
/-- What a rule's replacement leaves, the body as a row of its own that lies apart from the head. -/
def RuO (ok0 : Nat → Prop) (h : Tm) (l : List Lt) (w : World) (e : Ending) (w' : World) : Prop :=
  ∃ (q : Option Addr) (d : Nat) (v : Value) (R : Nat) (L : List (Lt × Value)), e = .returned (.agg #[.string h.nm, .slice q h.args.length d, v]) ∧ w.heap.size ≤ R ∧ R ≤ w'.heap.size ∧ SlIn (fun b => ok0 b ∨ (w.heap.size ≤ b ∧ b < R)) w' h.args (.slice q h.args.length d) ∧ L.map (·.1) = l ∧ OwnX KL ok0 R w' L v ∧ h.nm.size ≤ maxLen ∧ Below w.heap.size w w'
theorem RuO.to {ok0 : Nat → Prop} {h : Tm} {l : List Lt} {w : World} {e : Ending} {w' : World} (H : RuO ok0 h l w e w') : RuX ok0 h l w e w' := by
  obtain ⟨q, d, v, R, L, h1, h2, h3, h4, h5, h6, h7, h8⟩ := H
  exact ⟨q, d, v, h1, h4.weaken fun b hb => hb.imp id fun h => ⟨h.1, Nat.lt_of_lt_of_le h.2 h3⟩, ⟨L, h5, h6.row.wide fun b hb => hb.imp id fun h => ⟨Nat.le_trans h2 h.1, h.2⟩⟩, h7, h8⟩
set_option maxRecDepth 100000 in
set_option maxHeartbeats 6400000 in
theorem rir_own (clo : Value) (ok0 : Nat → Prop) (φ : Tm → Tm) (h : Tm) (l : List Lt) (w : World) (hv lv : Value) (hs : SlIn (· < w.heap.size) w h.args hv) (hl : LIn (· < w.heap.size) w l lv) (hn : h.nm.size ≤ maxLen) (hll : l.length ≤ 1000) (hok : ∀ b, ok0 b → b < w.heap.size)
    (HC : ∀ (t : Tm) (w' : World) (q : Value), (t = h ∨ ∃ x ∈ l, x.2 = t) → Below w.heap.size w w' → SlIn (· < w.heap.size) w' t.args q → t.nm.size ≤ maxLen → Calls Tryz.prog 71 #[.agg #[.string t.nm, q], clo] w' (RpX ok0 (φ t) w')) :
    Calls Tryz.prog 73 #[.agg #[.string h.nm, hv, lv], clo] w (RuO ok0 (φ h) (atomsL φ l) w) := by
  obtain ⟨p, c, rfl⟩ := hs.form
  obtain ⟨lp, lc, rfl⟩ := hl.form
  obtain ⟨i0, hi0, hi1, hi2, hi3⟩ := info_parts Tryz.infoL
  have hmf := @hmf0
  obtain ⟨W2, hW2⟩ : ∃ W2, W2 = (w.alloc (.cells #[.string h.nm, .slice p h.args.length c, .slice lp l.length lc] 27)).alloc (.cells #[.string ⟨#[]⟩, .slice none 0 0, .slice none 0 0] 27) := ⟨_, rfl⟩
  have B2 : Hid (Below w.heap.size w W2) := Lib.hid (by rw [hW2]; exact next0 (below_alloc _ _) (below_alloc _ _))
  have H2 : Hid (Has W2 w.heap.size #[.string h.nm, .slice p h.args.length c, .slice lp l.length lc]) := Lib.hid (by rw [hW2]; exact (Has.new w _ _).alloc _)
  have E2 : Hid (Has W2 (w.heap.size + 1) #[.string ⟨#[]⟩, .slice none 0 0, .slice none 0 0]) := Lib.hid (by rw [hW2]; exact Has.new1 w _ _ _)
  have hs2 : w.heap.size + 2 ≤ W2.heap.size := by rw [hW2]; simp
  have CB := Lib.hid (HC h W2 _ (Or.inl rfl) B2.out (hs.deep B2.out (Nat.le_refl _)) hn)
  have CX := Lib.hid (fun (x : Lt) (hx : x ∈ l) (q : Value) w0 (k0 : Below w.heap.size w w0) (hq : SlIn (· < w.heap.size) w0 x.2.args q) (hn : x.2.nm.size ≤ maxLen) w' (k : Below w.heap.size w w') (hq' : SlIn (· < w.heap.size) w' x.2.args q) => HC x.2 w' q (Or.inr ⟨x, hx, rfl⟩) k hq' hn)
  have LL := Lib.hid (fun w' (k : Below w.heap.size w w') => hl.keep (w' := w') fun b o hb => k.cell (p := ⟨b, o, none⟩) hb)
  have AT := Lib.hid (fun k x (hx : l[k]? = some x) => atoms_next (φ := φ) hx)
  have AE : Hid (atomsL φ (l.take l.length) = atomsL φ l) := Lib.hid (by rw [List.take_length])
  have AL : Hid (∀ k, k ≤ l.length → (atomsL φ (l.take k)).length = k) := Lib.hid (fun k hk => by unfold atomsL; rw [List.length_map, List.length_take]; omega)
  have OK0 := Lib.hid hok
  clear hs hn HC hok hl
  generalize φ h = u at *
  unfold RpX at CB CX
  generalize h.nm = hnm at *
  generalize h.args.length = hln at *
  generalize hnl : l.length = n at *
  have HNL := Lib.hid hnl
  clear hnl
  obtain ⟨y1, y2, y3⟩ := UniA.three H2.out
  go_enter Tryz.func73, Tryz.ntmps73
  go_upto_region 1 with fail
  rw [← hW2]
  clear hW2
  go_wp2_with fail
  refine CB.out.mono ?_
  rintro e w3 ⟨q, d, rfl, hS, hnu, k3⟩
  have D3 := Lib.hid (next0 B2.out k3)
  have H3 := Lib.hid (H2.out.step0 k3)
  have E3 := Lib.hid (E2.out.step0 k3)
  have hs3 : W2.heap.size ≤ w3.heap.size := k3.size
  have NU := Lib.hid hnu
  clear y1 y2 y3 hnu k3 H2 E2 CB
  obtain ⟨R, hR⟩ : ∃ m, m = w3.heap.size := ⟨_, rfl⟩
  have S3 : Hid (SlIn (fun b => ok0 b ∨ (W2.heap.size ≤ b ∧ b < R)) w3 u.args (.slice q u.args.length d)) := Lib.hid (by rw [hR]; exact hS)
  obtain ⟨W4, hW4⟩ : ∃ W4, W4 = w3.alloc (.cells #[.string u.nm, .slice q u.args.length d, .slice none 0 0] 27) := ⟨_, rfl⟩
  have K4 : Hid (Below w3.heap.size w3 W4) := Lib.hid (by rw [hW4]; exact below_alloc _ _)
  have R4 : Hid (Has W4 R #[.string u.nm, .slice q u.args.length d, .slice none 0 0]) := Lib.hid (by rw [hW4, hR]; exact Has.new _ _ _)
  have hs4 : R + 1 ≤ W4.heap.size := by rw [hW4, hR]; simp
  have H4 := Lib.hid (H3.out.step0 K4.out)
  have E4 := Lib.hid (E3.out.step0 K4.out)
  have D4 := Lib.hid (next0 D3.out K4.out)
  have hw2R : w.heap.size + 2 ≤ R := by omega
  have S4 := Lib.hid (S3.out.frame (w' := W4) fun b o hb => K4.out.cell (p := ⟨b, o, none⟩) (okx1 OK0.out (show w.heap.size ≤ w3.heap.size by omega) (show R ≤ w3.heap.size by omega) b hb))
  clear D3 H3 E3 S3 hS
  generalize hun : u.nm = hu at *
  have HHU := Lib.hid hun
  generalize hul : u.args.length = hl at *
  have HHL := Lib.hid hul
  clear hun hul
  obtain ⟨y1, y2, y3⟩ := UniA.three H4.out
  go_upto_region 2 with fail
  rw [← hW4, ← hR]
  clear hW4 hR
  go_wp2_with fail
  go_loopw [16] (fun i wr => ∃ (k : Nat) (L : List (Lt × Value)) (v : Value), k ≤ n ∧ i = .int .i64 k ∧ Hid (L.map (·.1) = atomsL φ (l.take k)) ∧ Hid (OwnX KL ok0 (R + 1) wr L v) ∧ Hid (Has wr R #[.string hu, .slice q hl d, v]) ∧ Hid (Has wr (w.heap.size + 1) #[.string ⟨#[]⟩, .slice none 0 0, .slice none 0 0]) ∧ Hid (SlIn (fun b => ok0 b ∨ (W2.heap.size ≤ b ∧ b < R)) wr u.args (.slice q hl d)) ∧ Hid (Below w.heap.size w wr)) (fun i _ => n - (intOf i).toNat)
  case atStart => exact ⟨0, [], _, Nat.zero_le _, rfl, Lib.hid rfl, Lib.hid (OwnX.nil _ _ _), R4, E4, S4, D4⟩
  case round =>
    clear R4 E4 S4 H4 y1 y2 y3
    obtain ⟨k, L, v, hk, rfl, hM, hO, hRb, hE, hS, hD⟩ := hrel
    obtain ⟨va, vc, rfl⟩ := hO.out.form
    by_cases hlt : k < n
    · obtain ⟨x, g, o, q5, d5, hx, rfl, hg, e1, e2, e3, hxs, hxn⟩ := lin_row (LL.out wr hD.out) k (by rw [HNL.out]; exact hlt)
      have hLk : L.length = k := by
        have := congrArg List.length hM.out
        rw [List.length_map, AL.out k hk] at this
        exact this
      have CR0 := Lib.hid (fun w' (k : Below wr.heap.size wr w') => CX.out x (List.mem_of_getElem? hx) _ wr hD.out hxs hxn w' (next0 hD.out k) (hxs.deep k hD.out.size))
      have HM1 : Hid (∀ z : Value, (L ++ [((x.1, φ x.2), z)]).map (·.1) = atomsL φ (l.take (k + 1))) := Lib.hid (fun z => by rw [AT.out k x hx, List.map_append, hM.out]; rfl)
      obtain ⟨Wb, hWb⟩ : ∃ z, z = wr.alloc (.cells #[.bool x.1, .string x.2.nm, .slice q5 x.2.args.length d5] 47) := ⟨_, rfl⟩
      obtain ⟨bx, hbx⟩ : ∃ m, m = wr.heap.size := ⟨_, rfl⟩
      have KB : Hid (Below wr.heap.size wr Wb) := Lib.hid (by rw [hWb]; exact below_alloc _ _)
      have HX : Hid (Has Wb bx #[.bool x.1, .string x.2.nm, .slice q5 x.2.args.length d5]) := Lib.hid (by rw [hWb, hbx]; exact Has.new _ _ _)
      have hOl := hO.out.1.lt
      have hRl := hRb.out.lt
      have OL : Hid (∀ k, (Value.slice va L.length vc).ownBlock = some k → R + 1 ≤ k ∧ k < bx) := Lib.hid (by rw [hbx]; exact hOl)
      have HR := Lib.hid (hRb.out.step0 KB.out)
      have O := Lib.hid (hO.out.below KB.out)
      have K := Lib.hid (next0 hD.out KB.out)
      have EQ5 := Lib.hid (hE.out.step0 KB.out)
      have SQ5 := Lib.hid (hS.out.frame (w' := Wb) fun b o hb => KB.out.cell (p := ⟨b, o, none⟩) (okx1 OK0.out hD.out.size (show R ≤ wr.heap.size by omega) b hb))
      have CR := Lib.hid (fun w' (k : Below Wb.heap.size Wb w') => CR0.out w' (next0 KB.out k))
      have AD := Lib.hid (fun (ok' : Nat → Prop) (w' : World) (v : Value) (h1 : SlIn ok' w' (φ x.2).args v) (h2 : (φ x.2).nm.size ≤ maxLen) => show KL.inn ok' w' ((x.1, φ x.2), v) from ⟨h1, h2⟩)
      have AF := Lib.hid (fun (w9 : World) (vv v : Value) (n : Nat) (h : w9.ownsRow (R + 1) 47 3 vv n (KL.flat L ++ [.bool x.1, .string (φ x.2).nm, v])) => show w9.ownsRow (R + 1) KL.ty 3 vv n (KL.flat L ++ KL.cells ((x.1, φ x.2), v)) from h)
      have hRb2 : R + 1 ≤ bx := by omega
      have hbW : bx < Wb.heap.size := HX.out.lt
      have A1 : L.length + 1 ≤ maxLen := by unfold maxLen; omega
      have A2 : (L.length + 1) * 48 ≤ 140737488355328 := by omega
      have Hb : Hid (∀ w', Lt (fun b => b = R ∨ (Value.slice va L.length vc).ownBlock = some b) Wb w' → (w'.cell? ⟨bx, 0, none⟩ = some (.bool x.1) ∧ w'.cell? ⟨bx, 1, none⟩ = some (.string x.2.nm) ∧ w'.cell? ⟨bx, 2, none⟩ = some (.slice q5 x.2.args.length d5))) := Lib.hid (fun w' g => by
        have := g.has HX.out (fun e => by rcases e with e | e; omega; have := OL.out _ e; omega)
        exact ⟨this.cell 0, this.cell 1, this.cell 2⟩)
      obtain ⟨z1, z2, z3, z4, z5, z6, z7⟩ := UnpP.has3 HX.out
      have e4 : wr.cell? ⟨g, o + k * 3 + 2, none⟩ = some (.slice q5 x.2.args.length d5) := e3
      clear hx hxs hxn hOl hRl CR0 KB HX hO hRb hE hS e3 hLk
      generalize x.1 = xb at *
      generalize x.2.nm = xn at *
      generalize x.2.args.length = xl at *
      generalize (φ x.2).nm = un at *
      generalize (φ x.2).args.length = ul at *
      go_upto_region 5 with fail
      rw [← hWb, ← hbx]
      clear hWb hbx z1 z2 z3 z4 z5 z6 z7 e1 e2 e4
      have X0 : Hid (Lt (fun b => b = R ∨ (Value.slice va L.length vc).ownBlock = some b) Wb Wb.drew) := Lib.hid (Lt.of (Below.refl _ _).drew)
      have K0 : Hid (Below Wb.heap.size Wb Wb.drew) := Lib.hid (Below.refl _ _).drew
      have HR0 := Lib.hid (HR.out.drew)
      have O0 : Hid (OwnX KL ok0 (R + 1) Wb.drew L (.slice va L.length vc)) := Lib.hid (O.out.below (Below.refl _ _).drew)
      refine wp_region_held_drew (S := (fun w' => w'.cell? ⟨bx, 0, none⟩ = some (.bool xb) ∧ w'.cell? ⟨bx, 1, none⟩ = some (.string xn) ∧ w'.cell? ⟨bx, 2, none⟩ = some (.slice q5 xl d5))) (by kernel_rfl) (Hb.out _ X0.out) (fun hHeld => ?_)
      have hz0 : Wb.heap.size ≤ Wb.drew.heap.size := Nat.le_refl _
      generalize hw0 : Wb.drew = wz at hHeld X0 K0 HR0 O0 hz0 ⊢
      clear hw0
      refine wpAnyH_take (i := 0) (v := ?_) rfl (by kernel_rfl) (by kernel_rfl) (by kernel_rfl) (fun _ _ _ h => h) (Or.inl ⟨by rfl, ?_⟩) (by assumption) ?_
      rotate_left
      · intro w' hSw; (try dsimp only at hSw); (try simp only [List.getElem_toArray, List.getElem_cons_zero]); go_simp; try with_reducible rfl
      (try simp only [List.getElem_toArray, List.getElem_cons_zero, Act.put, List.setIfInBounds_toArray, List.set_cons_zero, List.set_cons_succ])
      refine wpAnyH_take (i := 2) (v := ?_) rfl (by kernel_rfl) (by kernel_rfl) (by kernel_rfl) (fun _ _ _ h => h) (Or.inl ⟨by rfl, ?_⟩) (by assumption) ?_
      rotate_left
      · intro w' hSw; (try dsimp only at hSw); (try simp only [List.getElem_toArray, List.getElem_cons_zero, List.getElem_cons_succ]); go_simp; try with_reducible rfl
      (try simp only [List.getElem_toArray, List.getElem_cons_zero, List.getElem_cons_succ, Act.put, List.setIfInBounds_toArray, List.set_cons_zero, List.set_cons_succ])
      refine wpAnyH_take (i := 3) (v := ?_) rfl (by kernel_rfl) (by kernel_rfl) (by kernel_rfl) (fun _ _ _ h => h) (Or.inl ⟨by rfl, ?_⟩) (by assumption) ?_
      rotate_left
      · intro w' hSw; (try dsimp only at hSw); (try simp only [List.getElem_toArray, List.getElem_cons_zero, List.getElem_cons_succ]); go_simp; try with_reducible rfl
      (try simp only [List.getElem_toArray, List.getElem_cons_zero, List.getElem_cons_succ, Act.put, List.setIfInBounds_toArray, List.set_cons_zero, List.set_cons_succ])
      refine wpAnyH_take (i := 4) (v := ?_) rfl (by kernel_rfl) (by kernel_rfl) (by kernel_rfl) (fun _ _ _ h => h) (Or.inl ⟨by rfl, ?_⟩) (by assumption) ?_
      rotate_left
      · intro w' hSw; (try dsimp only at hSw); (try simp only [List.getElem_toArray, List.getElem_cons_zero, List.getElem_cons_succ]); go_simp; try with_reducible rfl
      (try simp only [List.getElem_toArray, List.getElem_cons_zero, List.getElem_cons_succ, Act.put, List.setIfInBounds_toArray, List.set_cons_zero, List.set_cons_succ])
      refine wpAnyH_take (i := 5) (v := ?_) rfl (by kernel_rfl) (by kernel_rfl) (by kernel_rfl) (fun _ _ _ h => h) (Or.inl ⟨by rfl, ?_⟩) (by assumption) ?_
      rotate_left
      · intro w' hSw; (try dsimp only at hSw); (try simp only [List.getElem_toArray, List.getElem_cons_zero, List.getElem_cons_succ]); go_simp; try with_reducible rfl
      (try simp only [List.getElem_toArray, List.getElem_cons_zero, List.getElem_cons_succ, Act.put, List.setIfInBounds_toArray, List.set_cons_zero, List.set_cons_succ])
      refine wpAnyH_take (i := 6) (v := ?_) rfl (by kernel_rfl) (by kernel_rfl) (by kernel_rfl) (fun _ _ _ h => h) (Or.inl ⟨by rfl, ?_⟩) (by assumption) ?_
      rotate_left
      · intro w' hSw; (try dsimp only at hSw); (try simp only [List.getElem_toArray, List.getElem_cons_zero, List.getElem_cons_succ]); go_simp; try with_reducible rfl
      (try simp only [List.getElem_toArray, List.getElem_cons_zero, List.getElem_cons_succ, Act.put, List.setIfInBounds_toArray, List.set_cons_zero, List.set_cons_succ])
      refine wpAnyH_ready (rs := [1, 7]) (by kernel_rfl) (by simp) ?_
      refine (AllReadyH.cons rfl (fun K' hK => ?_) (AllReadyH.cons rfl (fun K' hK => ?_) AllReadyH.nil))
      · skip
        obtain ⟨f1, f2, f3, f4, f5, f6, f7⟩ := UnpP.has3 HR0.out
        go_simp
        (try go_split_ands)
        clear f1 f2 f3 f4 f5 f6 f7
        refine hK.out _ _ (Hb.out _ X0.out) (fun hHeld => ?_)
        clear hK K'
        (try simp only [List.getElem_toArray, List.getElem_cons_zero, List.getElem_cons_succ, Act.put, List.setIfInBounds_toArray, List.set_cons_zero, List.set_cons_succ])
        refine wpAnyH_ready (rs := [7]) (by kernel_rfl) (by simp) ?_
        refine (AllReadyH.cons rfl (fun K' hK => ?_) AllReadyH.nil)
        go_simp
        (try go_split_ands)
        go_at_call 71
        (with_reducible refine (CR.out _ K0.out).mono ?_)
        rintro e w21 ⟨q7, d7, rfl, s7, n7, k7⟩
        have X1 := Lib.hid (Lt.below X0.out k7)
        have K1 := Lib.hid (next0 K0.out k7)
        have HR1 := Lib.hid (HR0.out.step0 k7)
        have O1 := Lib.hid (O0.out.below k7)
        have hz1 : wz.heap.size ≤ w21.heap.size := k7.size
        obtain ⟨lo, hlo⟩ : ∃ m, m = wz.heap.size := ⟨_, rfl⟩
        obtain ⟨hi, hhi⟩ : ∃ m, m = w21.heap.size := ⟨_, rfl⟩
        rw [← hlo, ← hhi] at s7
        have S1 := Lib.hid s7
        have N7 := Lib.hid n7
        clear s7 n7 k7
        refine hK.out _ _ (Hb.out _ X1.out) (fun hHeld => ?_)
        clear hK K'
        (try simp only [List.getElem_toArray, List.getElem_cons_zero, List.getElem_cons_succ, Act.put, List.setIfInBounds_toArray, List.set_cons_zero, List.set_cons_succ])
        refine wpAnyH_take (i := 8) (v := ?_) rfl (by kernel_rfl) (by kernel_rfl) (by kernel_rfl) (fun _ _ _ h => h) (Or.inl ⟨by rfl, ?_⟩) (by assumption) ?_
        rotate_left
        · intro w' hSw; (try dsimp only at hSw); (try simp only [List.getElem_toArray, List.getElem_cons_zero, List.getElem_cons_succ]); go_simp; try with_reducible rfl
        (try simp only [List.getElem_toArray, List.getElem_cons_zero, List.getElem_cons_succ, Act.put, List.setIfInBounds_toArray, List.set_cons_zero, List.set_cons_succ])
        refine wpAnyH_ready (rs := [9]) (by kernel_rfl) (by simp) ?_
        refine (AllReadyH.cons rfl (fun K' hK => ?_) AllReadyH.nil)
        go_simp
        (try go_split_ands)
        obtain ⟨w22, hw2⟩ : ∃ z, z = w21.alloc (.cells #[.bool xb, .string un, .slice q7 ul d7] 47) := ⟨_, rfl⟩
        rw [← hw2]
        have J2 : Hid (Below w21.heap.size w21 w22) := Lib.hid (by rw [hw2]; exact below_alloc _ _)
        have HB2 : Hid (Has w22 w21.heap.size #[.bool xb, .string un, .slice q7 ul d7]) := Lib.hid (by rw [hw2]; exact Has.new _ _ _)
        have hz2 : w21.heap.size + 1 ≤ w22.heap.size := by rw [hw2]; simp
        clear hw2
        have X2 := Lib.hid (Lt.below X1.out J2.out)
        have K2 := Lib.hid (next0 K1.out J2.out)
        have HR2 := Lib.hid (HR1.out.step0 J2.out)
        have O2 := Lib.hid (O1.out.below J2.out)
        have S2 := Lib.hid (S1.out.frame (w' := w22) fun b o hb => J2.out.cell (p := ⟨b, o, none⟩) (okx1 OK0.out (show w.heap.size ≤ w21.heap.size by omega) (show hi ≤ w21.heap.size by omega) b hb))
        refine hK.out _ _ (Hb.out _ X2.out) (fun hHeld => ?_)
        clear hK K'
        (try simp only [List.getElem_toArray, List.getElem_cons_zero, List.getElem_cons_succ, Act.put, List.setIfInBounds_toArray, List.set_cons_zero, List.set_cons_succ])
        refine wpAnyH_ready (rs := [10]) (by kernel_rfl) (by simp) ?_
        refine (AllReadyH.cons rfl (fun K' hK => ?_) AllReadyH.nil)
        refine step_append_lies _ rfl _ _ 25 rfl (R + 1) 47 i0 (.agg #[.bool false, .string ⟨#[]⟩, .slice none 0 0]) 3 48 Tryz.underlying25 hi0 hi1 hi2 hi3 rfl (by decide) (.slice va L.length vc) L.length (KL.flat L) rfl O2.out.1 ⟨w21.heap.size, 0, none⟩ 1 1 [.bool xb, .string un, .slice q7 ul d7] rfl rfl (World.news_of_block HB2.out.choose_spec) (one_L _ _ _ _ _) (by decide) A1 A2 (show R + 1 ≤ w22.heap.size by omega) _ rfl ?_
        intro g9 c9 w9 hown hgrow hat hlt9
        have OL9 := OL.out
        have X9 := Lib.hid (Lt.grown X2.out hgrow (fun k e => Or.inl (Or.inr e)))
        have L9 : Hid (Lt (fun b => (Value.slice va L.length vc).ownBlock = some b) w22 w9) := Lib.hid (Lt.grown (Lt.of (Below.refl _ _)) hgrow (fun k e => Or.inl e))
        have HR9 := Lib.hid (L9.out.has HR2.out (fun e => by have := OL9 _ e; omega))
        have O9 := Lib.hid (OwnX.add (K := KL) (x := ((xb, φ x.2), Value.slice q7 ul d7)) O2.out (AD.out _ _ _ S2.out N7.out) (okx2 OK0.out (show w.heap.size ≤ R by omega) (show R + 1 ≤ lo by omega) (show w.heap.size ≤ w22.heap.size by omega) (show hi ≤ w22.heap.size by omega) (fun k e => by have := OL9 k e; omega)) (AF.out _ _ _ _ hown) L9.out (hat.imp id fun h => Nat.le_of_eq h.symm))
        have hz9 : w22.heap.size ≤ w9.heap.size := L9.out.size
        clear hown hgrow OL9
        refine hK.out _ _ (Hb.out _ X9.out) (fun hHeld => ?_)
        clear hK K'
        (try simp only [List.getElem_toArray, List.getElem_cons_zero, List.getElem_cons_succ, Act.put, List.setIfInBounds_toArray, List.set_cons_zero, List.set_cons_succ])
        refine wpAnyH_take (i := 11) (v := ?_) rfl (by kernel_rfl) (by kernel_rfl) (by kernel_rfl) (fun _ _ _ h => h) (Or.inl ⟨by rfl, ?_⟩) (by assumption) ?_
        rotate_left
        · intro w' hSw; (try dsimp only at hSw); (try simp only [List.getElem_toArray, List.getElem_cons_zero, List.getElem_cons_succ]); go_simp; try with_reducible rfl
        (try simp only [List.getElem_toArray, List.getElem_cons_zero, List.getElem_cons_succ, Act.put, List.setIfInBounds_toArray, List.set_cons_zero, List.set_cons_succ])
        refine wpAnyH_ready (rs := [12]) (by kernel_rfl) (by simp) ?_
        refine (AllReadyH.cons rfl (fun K' hK => ?_) AllReadyH.nil)
        obtain ⟨f1, f2, f3, f4, f5, f6, f7⟩ := UnpP.has3 HR9.out
        go_simp
        (try go_split_ands)
        obtain ⟨w10, hw10⟩ : ∃ z, z = w9.setCell ⟨R, 2, none⟩ (.slice (some ⟨g9, 0, none⟩) (L.length + 1) c9) := ⟨_, rfl⟩
        rw [← hw10]
        have X10 : Hid (Lt (fun b => b = R ∨ (Value.slice va L.length vc).ownBlock = some b) Wb w10) := Lib.hid (by rw [hw10]; exact X9.out.put (Or.inl (Or.inl rfl)) _)
        have HR10 : Hid (Has w10 R #[.string hu, .slice q hl d, .slice (some ⟨g9, 0, none⟩) (L.length + 1) c9]) := Lib.hid (by rw [hw10]; exact HR9.out.set 2 _)
        have P10 : Hid (Lt (· = R) w9 w10) := Lib.hid (by rw [hw10]; exact Lt.put (ex := (· = R)) (p := ⟨R, 2, none⟩) (Lt.of (Below.refl _ _)) (Or.inl rfl) _)
        have O10 := Lib.hid (O9.out.lt P10.out (fun i e => by subst e; exact ⟨by omega, fun h => by have := OK0.out _ h; omega⟩))
        have OL10 := OL.out
        have D10 := Lib.hid (next9 K.out X10.out (fun k e => by rcases e with e | e; omega; have := OL10 k e; omega))
        have E10 := Lib.hid (X10.out.has EQ5.out (fun e => by rcases e with e | e; omega; have := OL10 _ e; omega))
        have S10 := Lib.hid (SQ5.out.frame (w' := w10) fun b o hb => X10.out.cell (okx1 OK0.out (show w.heap.size ≤ Wb.heap.size by omega) (show R ≤ Wb.heap.size by omega) b hb) (fun e => by have h1 := okx1 OK0.out (show w.heap.size ≤ R by omega) (Nat.le_refl R) b hb; rcases e with e | e; omega; have := OL10 _ e; omega))
        clear hw10 f1 f2 f3 f4 f5 f6 f7 OL10
        refine hK.out _ _ (Hb.out _ X10.out) (fun hHeld => ?_)
        clear hK K'
        (try simp only [List.getElem_toArray, List.getElem_cons_zero, List.getElem_cons_succ, Act.put, List.setIfInBounds_toArray, List.set_cons_zero, List.set_cons_succ])
        refine wpAnyH_done (by kernel_rfl) ?_ _
        go_wp2_with fail
        go_roundw
        case rel => exact ⟨k + 1, L ++ [((xb, φ x.2), .slice q7 ul d7)], _, by omega, by go_num, Lib.hid (HM1.out _), O10, HR10, E10, S10, D10⟩
        case measure => simp [intOf]; omega
      · skip
        go_simp
        (try go_split_ands)
        go_at_call 71
        (with_reducible refine (CR.out _ K0.out).mono ?_)
        rintro e w24 ⟨q7, d7, rfl, s7, n7, k7⟩
        have X4 := Lib.hid (Lt.below X0.out k7)
        have K4 := Lib.hid (next0 K0.out k7)
        have HR4 := Lib.hid (HR0.out.step0 k7)
        have O4 := Lib.hid (O0.out.below k7)
        have hz4 : wz.heap.size ≤ w24.heap.size := k7.size
        obtain ⟨lo, hlo⟩ : ∃ m, m = wz.heap.size := ⟨_, rfl⟩
        obtain ⟨hi, hhi⟩ : ∃ m, m = w24.heap.size := ⟨_, rfl⟩
        rw [← hlo, ← hhi] at s7
        have S4 := Lib.hid s7
        have N7 := Lib.hid n7
        clear s7 n7 k7
        refine hK.out _ _ (Hb.out _ X4.out) (fun hHeld => ?_)
        clear hK K'
        (try simp only [List.getElem_toArray, List.getElem_cons_zero, List.getElem_cons_succ, Act.put, List.setIfInBounds_toArray, List.set_cons_zero, List.set_cons_succ])
        refine wpAnyH_take (i := 8) (v := ?_) rfl (by kernel_rfl) (by kernel_rfl) (by kernel_rfl) (fun _ _ _ h => h) (Or.inl ⟨by rfl, ?_⟩) (by assumption) ?_
        rotate_left
        · intro w' hSw; (try dsimp only at hSw); (try simp only [List.getElem_toArray, List.getElem_cons_zero, List.getElem_cons_succ]); go_simp; try with_reducible rfl
        (try simp only [List.getElem_toArray, List.getElem_cons_zero, List.getElem_cons_succ, Act.put, List.setIfInBounds_toArray, List.set_cons_zero, List.set_cons_succ])
        refine wpAnyH_ready (rs := [1, 9]) (by kernel_rfl) (by simp) ?_
        refine (AllReadyH.cons rfl (fun K' hK => ?_) (AllReadyH.cons rfl (fun K' hK => ?_) AllReadyH.nil))
        · skip
          obtain ⟨f1, f2, f3, f4, f5, f6, f7⟩ := UnpP.has3 HR4.out
          go_simp
          (try go_split_ands)
          clear f1 f2 f3 f4 f5 f6 f7
          refine hK.out _ _ (Hb.out _ X4.out) (fun hHeld => ?_)
          clear hK K'
          (try simp only [List.getElem_toArray, List.getElem_cons_zero, List.getElem_cons_succ, Act.put, List.setIfInBounds_toArray, List.set_cons_zero, List.set_cons_succ])
          refine wpAnyH_ready (rs := [9]) (by kernel_rfl) (by simp) ?_
          refine (AllReadyH.cons rfl (fun K' hK => ?_) AllReadyH.nil)
          go_simp
          (try go_split_ands)
          obtain ⟨w25, hw5⟩ : ∃ z, z = w24.alloc (.cells #[.bool xb, .string un, .slice q7 ul d7] 47) := ⟨_, rfl⟩
          rw [← hw5]
          have J5 : Hid (Below w24.heap.size w24 w25) := Lib.hid (by rw [hw5]; exact below_alloc _ _)
          have HB5 : Hid (Has w25 w24.heap.size #[.bool xb, .string un, .slice q7 ul d7]) := Lib.hid (by rw [hw5]; exact Has.new _ _ _)
          have hz5 : w24.heap.size + 1 ≤ w25.heap.size := by rw [hw5]; simp
          clear hw5
          have X5 := Lib.hid (Lt.below X4.out J5.out)
          have K5 := Lib.hid (next0 K4.out J5.out)
          have HR5 := Lib.hid (HR4.out.step0 J5.out)
          have O5 := Lib.hid (O4.out.below J5.out)
          have S5 := Lib.hid (S4.out.frame (w' := w25) fun b o hb => J5.out.cell (p := ⟨b, o, none⟩) (okx1 OK0.out (show w.heap.size ≤ w24.heap.size by omega) (show hi ≤ w24.heap.size by omega) b hb))
          refine hK.out _ _ (Hb.out _ X5.out) (fun hHeld => ?_)
          clear hK K'
          (try simp only [List.getElem_toArray, List.getElem_cons_zero, List.getElem_cons_succ, Act.put, List.setIfInBounds_toArray, List.set_cons_zero, List.set_cons_succ])
          refine wpAnyH_ready (rs := [10]) (by kernel_rfl) (by simp) ?_
          refine (AllReadyH.cons rfl (fun K' hK => ?_) AllReadyH.nil)
          refine step_append_lies _ rfl _ _ 25 rfl (R + 1) 47 i0 (.agg #[.bool false, .string ⟨#[]⟩, .slice none 0 0]) 3 48 Tryz.underlying25 hi0 hi1 hi2 hi3 rfl (by decide) (.slice va L.length vc) L.length (KL.flat L) rfl O5.out.1 ⟨w24.heap.size, 0, none⟩ 1 1 [.bool xb, .string un, .slice q7 ul d7] rfl rfl (World.news_of_block HB5.out.choose_spec) (one_L _ _ _ _ _) (by decide) A1 A2 (show R + 1 ≤ w25.heap.size by omega) _ rfl ?_
          intro g9 c9 w9 hown hgrow hat hlt9
          have OL9 := OL.out
          have X9 := Lib.hid (Lt.grown X5.out hgrow (fun k e => Or.inl (Or.inr e)))
          have L9 : Hid (Lt (fun b => (Value.slice va L.length vc).ownBlock = some b) w25 w9) := Lib.hid (Lt.grown (Lt.of (Below.refl _ _)) hgrow (fun k e => Or.inl e))
          have HR9 := Lib.hid (L9.out.has HR5.out (fun e => by have := OL9 _ e; omega))
          have O9 := Lib.hid (OwnX.add (K := KL) (x := ((xb, φ x.2), Value.slice q7 ul d7)) O5.out (AD.out _ _ _ S5.out N7.out) (okx2 OK0.out (show w.heap.size ≤ R by omega) (show R + 1 ≤ lo by omega) (show w.heap.size ≤ w25.heap.size by omega) (show hi ≤ w25.heap.size by omega) (fun k e => by have := OL9 k e; omega)) (AF.out _ _ _ _ hown) L9.out (hat.imp id fun h => Nat.le_of_eq h.symm))
          have hz9 : w25.heap.size ≤ w9.heap.size := L9.out.size
          clear hown hgrow OL9
          refine hK.out _ _ (Hb.out _ X9.out) (fun hHeld => ?_)
          clear hK K'
          (try simp only [List.getElem_toArray, List.getElem_cons_zero, List.getElem_cons_succ, Act.put, List.setIfInBounds_toArray, List.set_cons_zero, List.set_cons_succ])
          refine wpAnyH_take (i := 11) (v := ?_) rfl (by kernel_rfl) (by kernel_rfl) (by kernel_rfl) (fun _ _ _ h => h) (Or.inl ⟨by rfl, ?_⟩) (by assumption) ?_
          rotate_left
          · intro w' hSw; (try dsimp only at hSw); (try simp only [List.getElem_toArray, List.getElem_cons_zero, List.getElem_cons_succ]); go_simp; try with_reducible rfl
          (try simp only [List.getElem_toArray, List.getElem_cons_zero, List.getElem_cons_succ, Act.put, List.setIfInBounds_toArray, List.set_cons_zero, List.set_cons_succ])
          refine wpAnyH_ready (rs := [12]) (by kernel_rfl) (by simp) ?_
          refine (AllReadyH.cons rfl (fun K' hK => ?_) AllReadyH.nil)
          obtain ⟨f1, f2, f3, f4, f5, f6, f7⟩ := UnpP.has3 HR9.out
          go_simp
          (try go_split_ands)
          obtain ⟨w10, hw10⟩ : ∃ z, z = w9.setCell ⟨R, 2, none⟩ (.slice (some ⟨g9, 0, none⟩) (L.length + 1) c9) := ⟨_, rfl⟩
          rw [← hw10]
          have X10 : Hid (Lt (fun b => b = R ∨ (Value.slice va L.length vc).ownBlock = some b) Wb w10) := Lib.hid (by rw [hw10]; exact X9.out.put (Or.inl (Or.inl rfl)) _)
          have HR10 : Hid (Has w10 R #[.string hu, .slice q hl d, .slice (some ⟨g9, 0, none⟩) (L.length + 1) c9]) := Lib.hid (by rw [hw10]; exact HR9.out.set 2 _)
          have P10 : Hid (Lt (· = R) w9 w10) := Lib.hid (by rw [hw10]; exact Lt.put (ex := (· = R)) (p := ⟨R, 2, none⟩) (Lt.of (Below.refl _ _)) (Or.inl rfl) _)
          have O10 := Lib.hid (O9.out.lt P10.out (fun i e => by subst e; exact ⟨by omega, fun h => by have := OK0.out _ h; omega⟩))
          have OL10 := OL.out
          have D10 := Lib.hid (next9 K.out X10.out (fun k e => by rcases e with e | e; omega; have := OL10 k e; omega))
          have E10 := Lib.hid (X10.out.has EQ5.out (fun e => by rcases e with e | e; omega; have := OL10 _ e; omega))
          have S10 := Lib.hid (SQ5.out.frame (w' := w10) fun b o hb => X10.out.cell (okx1 OK0.out (show w.heap.size ≤ Wb.heap.size by omega) (show R ≤ Wb.heap.size by omega) b hb) (fun e => by have h1 := okx1 OK0.out (show w.heap.size ≤ R by omega) (Nat.le_refl R) b hb; rcases e with e | e; omega; have := OL10 _ e; omega))
          clear hw10 f1 f2 f3 f4 f5 f6 f7 OL10
          refine hK.out _ _ (Hb.out _ X10.out) (fun hHeld => ?_)
          clear hK K'
          (try simp only [List.getElem_toArray, List.getElem_cons_zero, List.getElem_cons_succ, Act.put, List.setIfInBounds_toArray, List.set_cons_zero, List.set_cons_succ])
          refine wpAnyH_done (by kernel_rfl) ?_ _
          go_wp2_with fail
          go_roundw
          case rel => exact ⟨k + 1, L ++ [((xb, φ x.2), .slice q7 ul d7)], _, by omega, by go_num, Lib.hid (HM1.out _), O10, HR10, E10, S10, D10⟩
          case measure => simp [intOf]; omega
        · skip
          go_simp
          (try go_split_ands)
          obtain ⟨w27, hw7⟩ : ∃ z, z = w24.alloc (.cells #[.bool xb, .string un, .slice q7 ul d7] 47) := ⟨_, rfl⟩
          rw [← hw7]
          have J7 : Hid (Below w24.heap.size w24 w27) := Lib.hid (by rw [hw7]; exact below_alloc _ _)
          have HB7 : Hid (Has w27 w24.heap.size #[.bool xb, .string un, .slice q7 ul d7]) := Lib.hid (by rw [hw7]; exact Has.new _ _ _)
          have hz7 : w24.heap.size + 1 ≤ w27.heap.size := by rw [hw7]; simp
          clear hw7
          have X7 := Lib.hid (Lt.below X4.out J7.out)
          have K7 := Lib.hid (next0 K4.out J7.out)
          have HR7 := Lib.hid (HR4.out.step0 J7.out)
          have O7 := Lib.hid (O4.out.below J7.out)
          have S7 := Lib.hid (S4.out.frame (w' := w27) fun b o hb => J7.out.cell (p := ⟨b, o, none⟩) (okx1 OK0.out (show w.heap.size ≤ w24.heap.size by omega) (show hi ≤ w24.heap.size by omega) b hb))
          refine hK.out _ _ (Hb.out _ X7.out) (fun hHeld => ?_)
          clear hK K'
          (try simp only [List.getElem_toArray, List.getElem_cons_zero, List.getElem_cons_succ, Act.put, List.setIfInBounds_toArray, List.set_cons_zero, List.set_cons_succ])
          refine wpAnyH_ready (rs := [1]) (by kernel_rfl) (by simp) ?_
          refine (AllReadyH.cons rfl (fun K' hK => ?_) AllReadyH.nil)
          obtain ⟨f1, f2, f3, f4, f5, f6, f7⟩ := UnpP.has3 HR7.out
          go_simp
          (try go_split_ands)
          clear f1 f2 f3 f4 f5 f6 f7
          refine hK.out _ _ (Hb.out _ X7.out) (fun hHeld => ?_)
          clear hK K'
          (try simp only [List.getElem_toArray, List.getElem_cons_zero, List.getElem_cons_succ, Act.put, List.setIfInBounds_toArray, List.set_cons_zero, List.set_cons_succ])
          refine wpAnyH_ready (rs := [10]) (by kernel_rfl) (by simp) ?_
          refine (AllReadyH.cons rfl (fun K' hK => ?_) AllReadyH.nil)
          refine step_append_lies _ rfl _ _ 25 rfl (R + 1) 47 i0 (.agg #[.bool false, .string ⟨#[]⟩, .slice none 0 0]) 3 48 Tryz.underlying25 hi0 hi1 hi2 hi3 rfl (by decide) (.slice va L.length vc) L.length (KL.flat L) rfl O7.out.1 ⟨w24.heap.size, 0, none⟩ 1 1 [.bool xb, .string un, .slice q7 ul d7] rfl rfl (World.news_of_block HB7.out.choose_spec) (one_L _ _ _ _ _) (by decide) A1 A2 (show R + 1 ≤ w27.heap.size by omega) _ rfl ?_
          intro g9 c9 w9 hown hgrow hat hlt9
          have OL9 := OL.out
          have X9 := Lib.hid (Lt.grown X7.out hgrow (fun k e => Or.inl (Or.inr e)))
          have L9 : Hid (Lt (fun b => (Value.slice va L.length vc).ownBlock = some b) w27 w9) := Lib.hid (Lt.grown (Lt.of (Below.refl _ _)) hgrow (fun k e => Or.inl e))
          have HR9 := Lib.hid (L9.out.has HR7.out (fun e => by have := OL9 _ e; omega))
          have O9 := Lib.hid (OwnX.add (K := KL) (x := ((xb, φ x.2), Value.slice q7 ul d7)) O7.out (AD.out _ _ _ S7.out N7.out) (okx2 OK0.out (show w.heap.size ≤ R by omega) (show R + 1 ≤ lo by omega) (show w.heap.size ≤ w27.heap.size by omega) (show hi ≤ w27.heap.size by omega) (fun k e => by have := OL9 k e; omega)) (AF.out _ _ _ _ hown) L9.out (hat.imp id fun h => Nat.le_of_eq h.symm))
          have hz9 : w27.heap.size ≤ w9.heap.size := L9.out.size
          clear hown hgrow OL9
          refine hK.out _ _ (Hb.out _ X9.out) (fun hHeld => ?_)
          clear hK K'
          (try simp only [List.getElem_toArray, List.getElem_cons_zero, List.getElem_cons_succ, Act.put, List.setIfInBounds_toArray, List.set_cons_zero, List.set_cons_succ])
          refine wpAnyH_take (i := 11) (v := ?_) rfl (by kernel_rfl) (by kernel_rfl) (by kernel_rfl) (fun _ _ _ h => h) (Or.inl ⟨by rfl, ?_⟩) (by assumption) ?_
          rotate_left
          · intro w' hSw; (try dsimp only at hSw); (try simp only [List.getElem_toArray, List.getElem_cons_zero, List.getElem_cons_succ]); go_simp; try with_reducible rfl
          (try simp only [List.getElem_toArray, List.getElem_cons_zero, List.getElem_cons_succ, Act.put, List.setIfInBounds_toArray, List.set_cons_zero, List.set_cons_succ])
          refine wpAnyH_ready (rs := [12]) (by kernel_rfl) (by simp) ?_
          refine (AllReadyH.cons rfl (fun K' hK => ?_) AllReadyH.nil)
          obtain ⟨f1, f2, f3, f4, f5, f6, f7⟩ := UnpP.has3 HR9.out
          go_simp
          (try go_split_ands)
          obtain ⟨w10, hw10⟩ : ∃ z, z = w9.setCell ⟨R, 2, none⟩ (.slice (some ⟨g9, 0, none⟩) (L.length + 1) c9) := ⟨_, rfl⟩
          rw [← hw10]
          have X10 : Hid (Lt (fun b => b = R ∨ (Value.slice va L.length vc).ownBlock = some b) Wb w10) := Lib.hid (by rw [hw10]; exact X9.out.put (Or.inl (Or.inl rfl)) _)
          have HR10 : Hid (Has w10 R #[.string hu, .slice q hl d, .slice (some ⟨g9, 0, none⟩) (L.length + 1) c9]) := Lib.hid (by rw [hw10]; exact HR9.out.set 2 _)
          have P10 : Hid (Lt (· = R) w9 w10) := Lib.hid (by rw [hw10]; exact Lt.put (ex := (· = R)) (p := ⟨R, 2, none⟩) (Lt.of (Below.refl _ _)) (Or.inl rfl) _)
          have O10 := Lib.hid (O9.out.lt P10.out (fun i e => by subst e; exact ⟨by omega, fun h => by have := OK0.out _ h; omega⟩))
          have OL10 := OL.out
          have D10 := Lib.hid (next9 K.out X10.out (fun k e => by rcases e with e | e; omega; have := OL10 k e; omega))
          have E10 := Lib.hid (X10.out.has EQ5.out (fun e => by rcases e with e | e; omega; have := OL10 _ e; omega))
          have S10 := Lib.hid (SQ5.out.frame (w' := w10) fun b o hb => X10.out.cell (okx1 OK0.out (show w.heap.size ≤ Wb.heap.size by omega) (show R ≤ Wb.heap.size by omega) b hb) (fun e => by have h1 := okx1 OK0.out (show w.heap.size ≤ R by omega) (Nat.le_refl R) b hb; rcases e with e | e; omega; have := OL10 _ e; omega))
          clear hw10 f1 f2 f3 f4 f5 f6 f7 OL10
          refine hK.out _ _ (Hb.out _ X10.out) (fun hHeld => ?_)
          clear hK K'
          (try simp only [List.getElem_toArray, List.getElem_cons_zero, List.getElem_cons_succ, Act.put, List.setIfInBounds_toArray, List.set_cons_zero, List.set_cons_succ])
          refine wpAnyH_done (by kernel_rfl) ?_ _
          go_wp2_with fail
          go_roundw
          case rel => exact ⟨k + 1, L ++ [((xb, φ x.2), .slice q7 ul d7)], _, by omega, by go_num, Lib.hid (HM1.out _), O10, HR10, E10, S10, D10⟩
          case measure => simp [intOf]; omega
    · obtain rfl : k = n := by omega
      have MM : Hid (L.map (·.1) = atomsL φ l) := Lib.hid (by rw [hM.out, AE.out])
      have hRlt := hRb.out.lt
      obtain ⟨f1, f2, f3, f4, f5, f6, f7⟩ := UnpP.has3 hRb.out
      obtain ⟨g1, g2, g3, g4, g5, g6, g7⟩ := UnpP.has3 hE.out
      obtain ⟨W9, hW9⟩ : ∃ z, z = ((wr.setCell ⟨w.heap.size + 1, 0, none⟩ (.string hu)).setCell ⟨w.heap.size + 1, 1, none⟩ (.slice q hl d)).setCell ⟨w.heap.size + 1, 2, none⟩ (.slice va L.length vc) := ⟨_, rfl⟩
      have R6 := put3 hE.out (.string hu) (.slice q hl d) (.slice va L.length vc)
      obtain ⟨r1, r2, r3⟩ := UniA.three R6
      have P9 : Hid (Lt (· = w.heap.size + 1) wr W9) := Lib.hid (by rw [hW9]; exact Lt.put (ex := (· = w.heap.size + 1)) (p := ⟨w.heap.size + 1, 2, none⟩) (Lt.put (ex := (· = w.heap.size + 1)) (p := ⟨w.heap.size + 1, 1, none⟩) (Lt.put (ex := (· = w.heap.size + 1)) (p := ⟨w.heap.size + 1, 0, none⟩) (Lt.of (Below.refl _ _)) (Or.inl rfl) _) (Or.inl rfl) _) (Or.inl rfl) _)
      have D9 := Lib.hid (next9 hD.out P9.out (fun i e => by subst e; omega))
      have hz9 := P9.out.size
      have S9 := Lib.hid (hS.out.frame (w' := W9) fun b o hb => P9.out.cell (okx1 OK0.out hD.out.size (show R ≤ wr.heap.size by omega) b hb) (fun e => by rcases hb with hb | hb; have := OK0.out b hb; omega; omega))
      have O9 := Lib.hid (hO.out.lt P9.out (fun i e => by subst e; exact ⟨by omega, fun h => by have := OK0.out _ h; omega⟩))
      have X9 : Hid (RuO ok0 u (atomsL φ l) w (.returned (.agg #[.string hu, .slice q hl d, .slice va L.length vc])) W9) := Lib.hid ⟨q, d, _, R + 1, L, by rw [HHU.out, HHL.out], by omega, by omega, by rw [HHL.out]; exact S9.out.weaken fun b hb => hb.imp id fun h => ⟨by omega, by omega⟩, MM.out, O9.out, by rw [HHU.out]; exact NU.out, D9.out⟩
      have HW9 := Lib.hid hW9
      clear R6 MM S9 O9 P9 D9 hz9 hW9 hRlt
      go_wp2_with fail
      refine bodyPost_ret (v := .agg #[.string hu, .slice q hl d, .slice va L.length vc]) (by simp [results, Tryz.results73, go_sem, r1, r2, r3]) rfl ?_
      rw [← HW9.out]
      exact X9.out
end UnqB
end Go.Proofs.YtdkpflojdnkbnaaGreatDoor
