/- Texts laid together: UnqC; UnqD; LigZ; LihD; Sm20; UniS. Their own heads stand before each. -/
import Derived.Test.YtjfgnmmcdgpiiaaGreatDoorGA1
import Derived.Test.YtjfgnmmcdgpiiaaGreatDoorGA2
import Derived.Test.YtjfgnmmcdgpiiaaGreatDoorLigU
import Derived.Deep.RegionHeld3
import Derived.Deep.DeepCutAuto
import Derived.Test.YtjfgnmmcdgpiiaaGreatDoorLigX
import Derived.Test.YtjfgnmmcdgpiiaaGreatDoorTermS
import Derived.Test.YtjfgnmmcdgpiiaaGreatDoorTermEq
import Derived.Test.YtjfgnmmcdgpiiaaGreatDoorUniP
import Derived.Deep.RegionWith
import Derived.BigQuiet
import Derived.Test.YtjfgnmmcdgpiiaaGreatDoorUniR
import Derived.Test.YtjfgnmmcdgpiiaaGreatDoorUniL
/- ApplyRule of the reference: a rule's head and the atoms of its body, replaced. Made by genrule.py. Conditions: at most a thousand literals; what is called for each term answers. -/
namespace Go.Proofs.YtjfgnmmcdgpiiaaGreatDoor
open Go Go.RowKit
namespace UnqC
open LexM TermM TermI Kit TermN TermU UniK UniM UniA UniD UniE UniF UniG UniR UnmH LigG LigU LigY UnqA UnqB UniH
set_option maxRecDepth 100000 in
set_option maxHeartbeats 6400000 in
theorem rar_any (s : List Bd) (hV : ∀ b ∈ s, varB b.1 = true) (h : Tm) (l : List Lt) (w : World) (sv hv lv : Value) (hss : SIn (· < w.heap.size) w s sv) (hs : SlIn (· < w.heap.size) w h.args hv) (hl : LIn (· < w.heap.size) w l lv) (hn : h.nm.size ≤ maxLen) (hll : l.length ≤ 1000) (hz : sizeT h ≤ 1000000) (hzl : ∀ x ∈ l, sizeT x.2 ≤ 1000000) :
    Calls Tryz.prog 24 #[sv, .agg #[.string h.nm, hv, lv]] w (RuX (· < w.heap.size) (appT s h) (atomsL (appT s) l) w) := by
  obtain ⟨ok0, hok0⟩ : ∃ f : Nat → Prop, f = (· < w.heap.size) := ⟨_, rfl⟩
  have hok : ∀ b, ok0 b → b < w.heap.size := by rw [hok0]; exact fun b h => h
  obtain ⟨φ, hφ⟩ : ∃ f : Tm → Tm, f = appT s := ⟨_, rfl⟩
  have HC : ∀ (t : Tm) (w' : World) (q : Value), (t = h ∨ ∃ x ∈ l, x.2 = t) → Below w.heap.size w w' → SlIn (· < w.heap.size) w' t.args q → t.nm.size ≤ maxLen → Calls Tryz.prog 21 #[sv, .agg #[.string t.nm, q]] w' (RpX ok0 (φ t) w') := fun t w' q ht k hq hn => by
    rw [hok0, hφ]
    exact rapply_any s hV t w.heap.size w' sv q k.size (hss.deep k (Nat.le_refl _)) hq hn (by rcases ht with rfl | ⟨x, hx, rfl⟩; exact hz; exact hzl x hx)
  rw [← hok0, ← hφ]
  obtain ⟨ps, cs, hsv⟩ := hss.form
  subst hsv
  clear hok0 hφ hss hz hzl hV
  generalize s.length = sn at *
  obtain ⟨p, c, rfl⟩ := hs.form
  obtain ⟨lp, lc, rfl⟩ := hl.form
  obtain ⟨i0, hi0, hi1, hi2, hi3⟩ := info_parts Tryz.infoL
  obtain ⟨W2, hW2⟩ : ∃ W2, W2 = (w.alloc (.cells #[.string h.nm, .slice p h.args.length c, .slice lp l.length lc] 34)).alloc (.cells #[.string ⟨#[]⟩, .slice none 0 0, .slice none 0 0] 34) := ⟨_, rfl⟩
  have B2 : Hid (Below w.heap.size w W2) := Lib.hid (by rw [hW2]; exact next0 (below_alloc _ _) (below_alloc _ _))
  have H2 : Hid (Has W2 w.heap.size #[.string h.nm, .slice p h.args.length c, .slice lp l.length lc]) := Lib.hid (by rw [hW2]; exact (Has.new w _ _).alloc _)
  have E2 : Hid (Has W2 (w.heap.size + 1) #[.string ⟨#[]⟩, .slice none 0 0, .slice none 0 0]) := Lib.hid (by rw [hW2]; exact Has.new1 w _ _ _)
  have hs2 : w.heap.size + 2 ≤ W2.heap.size := by rw [hW2]; simp
  have CB := Lib.hid (HC h W2 _ (Or.inl rfl) B2.out (hs.deep B2.out (Nat.le_refl _)) hn)
  have CX := Lib.hid (fun (x : Lt) (hx : x ∈ l) (q : Value) w0 (k0 : Below w.heap.size w w0) (hq : SlIn (· < w.heap.size) w0 x.2.args q) (hn : x.2.nm.size ≤ maxLen) w' (k : Below w.heap.size w w') (hq' : SlIn (· < w.heap.size) w' x.2.args q) => HC x.2 w' q (Or.inr ⟨x, hx, rfl⟩) k hq' hn)
  have LL := Lib.hid (fun w' (k : Below w.heap.size w w') => hl.keep (w' := w') fun b o hb => k.cell (p := ⟨b, o, none⟩) hb)
  have AT := Lib.hid (fun k x (hx : l[k]? = some x) => atoms_next (φ := φ) hx)
  have AE : Hid (atomsL φ (l.take l.length) = atomsL φ l) := Lib.hid (by rw [List.take_length])
  have AL : Hid (∀ k, k ≤ l.length → (atomsL φ (l.take k)).length = k) := Lib.hid (fun k hk => by unfold atomsL; rw [List.length_map, List.length_take]; omega)
  have OK0 := Lib.hid hok
  clear hs hn HC hok hl
  generalize φ h = u at *
  unfold RpX at CB CX
  generalize h.nm = hnm at *
  generalize h.args.length = hln at *
  generalize hnl : l.length = n at *
  have HNL := Lib.hid hnl
  clear hnl
  obtain ⟨y1, y2, y3⟩ := UniA.three H2.out
  go_enter Tryz.func24, Tryz.ntmps24
  go_upto_region 1 with fail
  rw [← hW2]
  clear hW2
  go_wp2_with fail
  refine CB.out.mono ?_
  rintro e w3 ⟨q, d, rfl, hS, hnu, k3⟩
  have D3 := Lib.hid (next0 B2.out k3)
  have H3 := Lib.hid (H2.out.step0 k3)
  have E3 := Lib.hid (E2.out.step0 k3)
  have hs3 : W2.heap.size ≤ w3.heap.size := k3.size
  have NU := Lib.hid hnu
  clear y1 y2 y3 hnu k3 H2 E2 CB
  obtain ⟨R, hR⟩ : ∃ m, m = w3.heap.size := ⟨_, rfl⟩
  have S3 : Hid (SlIn (fun b => ok0 b ∨ (W2.heap.size ≤ b ∧ b < R)) w3 u.args (.slice q u.args.length d)) := Lib.hid (by rw [hR]; exact hS)
  obtain ⟨W4, hW4⟩ : ∃ W4, W4 = w3.alloc (.cells #[.string u.nm, .slice q u.args.length d, .slice none 0 0] 34) := ⟨_, rfl⟩
  have K4 : Hid (Below w3.heap.size w3 W4) := Lib.hid (by rw [hW4]; exact below_alloc _ _)
  have R4 : Hid (Has W4 R #[.string u.nm, .slice q u.args.length d, .slice none 0 0]) := Lib.hid (by rw [hW4, hR]; exact Has.new _ _ _)
  have hs4 : R + 1 ≤ W4.heap.size := by rw [hW4, hR]; simp
  have H4 := Lib.hid (H3.out.step0 K4.out)
  have E4 := Lib.hid (E3.out.step0 K4.out)
  have D4 := Lib.hid (next0 D3.out K4.out)
  have hw2R : w.heap.size + 2 ≤ R := by omega
  have S4 := Lib.hid (S3.out.frame (w' := W4) fun b o hb => K4.out.cell (p := ⟨b, o, none⟩) (okx1 OK0.out (show w.heap.size ≤ w3.heap.size by omega) (show R ≤ w3.heap.size by omega) b hb))
  clear D3 H3 E3 S3 hS
  generalize hun : u.nm = hu at *
  have HHU := Lib.hid hun
  generalize hul : u.args.length = hl at *
  have HHL := Lib.hid hul
  clear hun hul
  obtain ⟨y1, y2, y3⟩ := UniA.three H4.out
  go_upto_region 2 with fail
  rw [← hW4, ← hR]
  clear hW4 hR
  go_wp2_with fail
  go_loopw [6] (fun i wr => ∃ (k : Nat) (L : List (Lt × Value)) (v : Value), k ≤ n ∧ i = .int .i64 k ∧ Hid (L.map (·.1) = atomsL φ (l.take k)) ∧ Hid (OwnX KL ok0 (R + 1) wr L v) ∧ Hid (Has wr R #[.string hu, .slice q hl d, v]) ∧ Hid (Has wr (w.heap.size + 1) #[.string ⟨#[]⟩, .slice none 0 0, .slice none 0 0]) ∧ Hid (Has wr w.heap.size #[.string hnm, .slice p hln c, .slice lp n lc]) ∧ Hid (SlIn (fun b => ok0 b ∨ (W2.heap.size ≤ b ∧ b < R)) wr u.args (.slice q hl d)) ∧ Hid (Below w.heap.size w wr)) (fun i _ => n - (intOf i).toNat)
  case atStart => exact ⟨0, [], _, Nat.zero_le _, rfl, Lib.hid rfl, Lib.hid (OwnX.nil _ _ _), R4, E4, H4, S4, D4⟩
  case round =>
    clear R4 E4 S4 H4 y1 y2 y3
    obtain ⟨k, L, v, hk, rfl, hM, hO, hRb, hE, hX, hS, hD⟩ := hrel
    obtain ⟨y1, y2, y3⟩ := UniA.three hX.out
    obtain ⟨va, vc, rfl⟩ := hO.out.form
    by_cases hlt : k < n
    · obtain ⟨x, g, o, q5, d5, hx, rfl, hg, e1, e2, e3, hxs, hxn⟩ := lin_row (LL.out wr hD.out) k (by rw [HNL.out]; exact hlt)
      have hLk : L.length = k := by
        have := congrArg List.length hM.out
        rw [List.length_map, AL.out k hk] at this
        exact this
      have CR0 := Lib.hid (fun w' (k : Below wr.heap.size wr w') => CX.out x (List.mem_of_getElem? hx) _ wr hD.out hxs hxn w' (next0 hD.out k) (hxs.deep k hD.out.size))
      have HM1 : Hid (∀ z : Value, (L ++ [((x.1, φ x.2), z)]).map (·.1) = atomsL φ (l.take (k + 1))) := Lib.hid (fun z => by rw [AT.out k x hx, List.map_append, hM.out]; rfl)
      obtain ⟨bx, hbx⟩ : ∃ m, m = wr.heap.size := ⟨_, rfl⟩
      have hOl := hO.out.1.lt
      have hRl := hRb.out.lt
      have OL : Hid (∀ k, (Value.slice va L.length vc).ownBlock = some k → R + 1 ≤ k ∧ k < bx) := Lib.hid (by rw [hbx]; exact hOl)
      have HR := Lib.hid hRb.out
      have O := Lib.hid hO.out
      have K := Lib.hid hD.out
      have EQ5 := Lib.hid hE.out
      have SQ5 := Lib.hid hS.out
      have HX := Lib.hid hX.out
      have hwr : w.heap.size ≤ wr.heap.size := hD.out.size
      have CR := Lib.hid (fun w' (k : Below wr.heap.size wr w') => CR0.out w' k)
      have AD := Lib.hid (fun (ok' : Nat → Prop) (w' : World) (v : Value) (h1 : SlIn ok' w' (φ x.2).args v) (h2 : (φ x.2).nm.size ≤ maxLen) => show KL.inn ok' w' ((x.1, φ x.2), v) from ⟨h1, h2⟩)
      have AF := Lib.hid (fun (w9 : World) (vv v : Value) (n : Nat) (h : w9.ownsRow (R + 1) 67 3 vv n (KL.flat L ++ [.bool x.1, .string (φ x.2).nm, v])) => show w9.ownsRow (R + 1) KL.ty 3 vv n (KL.flat L ++ KL.cells ((x.1, φ x.2), v)) from h)
      have hRb2 : R + 1 ≤ bx := by omega
      have hbW : bx ≤ wr.heap.size := by omega
      have A1 : L.length + 1 ≤ maxLen := by unfold maxLen; omega
      have A2 : (L.length + 1) * 48 ≤ 140737488355328 := by omega
      have Hb : Hid (∀ w', Lt (fun b => b = R ∨ (Value.slice va L.length vc).ownBlock = some b) wr w' → (w'.cell? ⟨w.heap.size, 2, none⟩ = some (.slice (some ⟨g, o, none⟩) n lc) ∧ w'.cell? ⟨g, o + k * 3, none⟩ = some (.bool x.1) ∧ w'.cell? ⟨g, o + k * 3 + 1, none⟩ = some (.string x.2.nm) ∧ w'.cell? ⟨g, o + k * 3 + 1 + 1, none⟩ = some (.slice q5 x.2.args.length d5))) := Lib.hid (fun w' gl => by
        have h1 := gl.has HX.out (fun e => by rcases e with e | e; omega; have := OL.out _ e; omega)
        have h2 : ∀ i, w'.cell? ⟨g, i, none⟩ = wr.cell? ⟨g, i, none⟩ := fun i => gl.cell (show g < wr.heap.size by omega) (fun e => by rcases e with e | e; omega; have := OL.out _ e; omega)
        exact ⟨h1.cell 2, (h2 _).trans e1, (h2 _).trans e2, (h2 _).trans e3⟩)
      clear hx hxs hxn hOl hRl CR0 hO hRb hE hS hX hLk e1 e2 e3
      generalize x.1 = xb at *
      generalize x.2.nm = xn at *
      generalize x.2.args.length = xl at *
      generalize (φ x.2).nm = un at *
      generalize (φ x.2).args.length = ul at *
      go_upto_region 5 with fail
      clear hbx y1 y2 y3
      have X0 : Hid (Lt (fun b => b = R ∨ (Value.slice va L.length vc).ownBlock = some b) wr wr.drew) := Lib.hid (Lt.of (Below.refl _ _).drew)
      have K0 : Hid (Below wr.heap.size wr wr.drew) := Lib.hid (Below.refl _ _).drew
      have HR0 := Lib.hid (HR.out.drew)
      have O0 : Hid (OwnX KL ok0 (R + 1) wr.drew L (.slice va L.length vc)) := Lib.hid (O.out.below (Below.refl _ _).drew)
      refine wp_region_held_drew (S := (fun w' => w'.cell? ⟨w.heap.size, 2, none⟩ = some (.slice (some ⟨g, o, none⟩) n lc) ∧ w'.cell? ⟨g, o + k * 3, none⟩ = some (.bool xb) ∧ w'.cell? ⟨g, o + k * 3 + 1, none⟩ = some (.string xn) ∧ w'.cell? ⟨g, o + k * 3 + 1 + 1, none⟩ = some (.slice q5 xl d5))) (by kernel_rfl) (Hb.out _ X0.out) (fun hHeld => ?_)
      have hz0 : wr.heap.size ≤ wr.drew.heap.size := Nat.le_refl _
      generalize hw0 : wr.drew = wz at hHeld X0 K0 HR0 O0 hz0 ⊢
      clear hw0
      refine wpAnyH_take (i := 0) (v := ?_) rfl (by kernel_rfl) (by kernel_rfl) (by kernel_rfl) (fun _ _ _ h => h) (Or.inl ⟨by rfl, ?_⟩) (by assumption) ?_
      rotate_left
      · intro w' hSw; (try dsimp only at hSw); (try simp only [List.getElem_toArray, List.getElem_cons_zero]); go_simp; try with_reducible rfl
      (try simp only [List.getElem_toArray, List.getElem_cons_zero, Act.put, List.setIfInBounds_toArray, List.set_cons_zero, List.set_cons_succ])
      refine wpAnyH_take (i := 2) (v := ?_) rfl (by kernel_rfl) (by kernel_rfl) (by kernel_rfl) (fun _ _ _ h => h) (Or.inl ⟨by rfl, ?_⟩) (by assumption) ?_
      rotate_left
      · intro w' hSw; (try dsimp only at hSw); (try simp only [List.getElem_toArray, List.getElem_cons_zero, List.getElem_cons_succ]); go_simp; try with_reducible rfl
      (try simp only [List.getElem_toArray, List.getElem_cons_zero, List.getElem_cons_succ, Act.put, List.setIfInBounds_toArray, List.set_cons_zero, List.set_cons_succ])
      refine wpAnyH_take (i := 3) (v := ?_) rfl (by kernel_rfl) (by kernel_rfl) (by kernel_rfl) (fun _ _ _ h => h) (Or.inl ⟨by rfl, ?_⟩) (by assumption) ?_
      rotate_left
      · intro w' hSw; (try dsimp only at hSw); (try simp only [List.getElem_toArray, List.getElem_cons_zero, List.getElem_cons_succ]); go_simp; try with_reducible rfl
      (try simp only [List.getElem_toArray, List.getElem_cons_zero, List.getElem_cons_succ, Act.put, List.setIfInBounds_toArray, List.set_cons_zero, List.set_cons_succ])
      refine wpAnyH_take (i := 4) (v := ?_) rfl (by kernel_rfl) (by kernel_rfl) (by kernel_rfl) (fun _ _ _ h => h) (Or.inl ⟨by rfl, ?_⟩) (by assumption) ?_
      rotate_left
      · intro w' hSw; (try dsimp only at hSw); (try simp only [List.getElem_toArray, List.getElem_cons_zero, List.getElem_cons_succ]); go_simp; try with_reducible rfl
      (try simp only [List.getElem_toArray, List.getElem_cons_zero, List.getElem_cons_succ, Act.put, List.setIfInBounds_toArray, List.set_cons_zero, List.set_cons_succ])
      refine wpAnyH_take (i := 5) (v := ?_) rfl (by kernel_rfl) (by kernel_rfl) (by kernel_rfl) (fun _ _ _ h => h) (Or.inl ⟨by rfl, ?_⟩) (by assumption) ?_
      rotate_left
      · intro w' hSw; (try dsimp only at hSw); (try simp only [List.getElem_toArray, List.getElem_cons_zero, List.getElem_cons_succ]); go_simp; try with_reducible rfl
      (try simp only [List.getElem_toArray, List.getElem_cons_zero, List.getElem_cons_succ, Act.put, List.setIfInBounds_toArray, List.set_cons_zero, List.set_cons_succ])
      refine wpAnyH_take (i := 6) (v := ?_) rfl (by kernel_rfl) (by kernel_rfl) (by kernel_rfl) (fun _ _ _ h => h) (Or.inl ⟨by rfl, ?_⟩) (by assumption) ?_
      rotate_left
      · intro w' hSw; (try dsimp only at hSw); (try simp only [List.getElem_toArray, List.getElem_cons_zero, List.getElem_cons_succ]); go_simp; try with_reducible rfl
      (try simp only [List.getElem_toArray, List.getElem_cons_zero, List.getElem_cons_succ, Act.put, List.setIfInBounds_toArray, List.set_cons_zero, List.set_cons_succ])
      refine wpAnyH_take (i := 7) (v := ?_) rfl (by kernel_rfl) (by kernel_rfl) (by kernel_rfl) (fun _ _ _ h => h) (Or.inl ⟨by rfl, ?_⟩) (by assumption) ?_
      rotate_left
      · intro w' hSw; (try dsimp only at hSw); (try simp only [List.getElem_toArray, List.getElem_cons_zero, List.getElem_cons_succ]); go_simp; try with_reducible rfl
      (try simp only [List.getElem_toArray, List.getElem_cons_zero, List.getElem_cons_succ, Act.put, List.setIfInBounds_toArray, List.set_cons_zero, List.set_cons_succ])
      refine wpAnyH_take (i := 8) (v := ?_) rfl (by kernel_rfl) (by kernel_rfl) (by kernel_rfl) (fun _ _ _ h => h) (Or.inl ⟨by rfl, ?_⟩) (by assumption) ?_
      rotate_left
      · intro w' hSw; (try dsimp only at hSw); (try simp only [List.getElem_toArray, List.getElem_cons_zero, List.getElem_cons_succ]); go_simp; try with_reducible rfl
      (try simp only [List.getElem_toArray, List.getElem_cons_zero, List.getElem_cons_succ, Act.put, List.setIfInBounds_toArray, List.set_cons_zero, List.set_cons_succ])
      refine wpAnyH_take (i := 9) (v := ?_) rfl (by kernel_rfl) (by kernel_rfl) (by kernel_rfl) (fun _ _ _ h => h) (Or.inl ⟨by rfl, ?_⟩) (by assumption) ?_
      rotate_left
      · intro w' hSw; (try dsimp only at hSw); (try simp only [List.getElem_toArray, List.getElem_cons_zero, List.getElem_cons_succ]); go_simp; try with_reducible rfl
      (try simp only [List.getElem_toArray, List.getElem_cons_zero, List.getElem_cons_succ, Act.put, List.setIfInBounds_toArray, List.set_cons_zero, List.set_cons_succ])
      refine wpAnyH_take (i := 10) (v := ?_) rfl (by kernel_rfl) (by kernel_rfl) (by kernel_rfl) (fun _ _ _ h => h) (Or.inl ⟨by rfl, ?_⟩) (by assumption) ?_
      rotate_left
      · intro w' hSw; (try dsimp only at hSw); (try simp only [List.getElem_toArray, List.getElem_cons_zero, List.getElem_cons_succ]); go_simp; try with_reducible rfl
      (try simp only [List.getElem_toArray, List.getElem_cons_zero, List.getElem_cons_succ, Act.put, List.setIfInBounds_toArray, List.set_cons_zero, List.set_cons_succ])
      refine wpAnyH_take (i := 11) (v := ?_) rfl (by kernel_rfl) (by kernel_rfl) (by kernel_rfl) (fun _ _ _ h => h) (Or.inl ⟨by rfl, ?_⟩) (by assumption) ?_
      rotate_left
      · intro w' hSw; (try dsimp only at hSw); (try simp only [List.getElem_toArray, List.getElem_cons_zero, List.getElem_cons_succ]); go_simp; try with_reducible rfl
      (try simp only [List.getElem_toArray, List.getElem_cons_zero, List.getElem_cons_succ, Act.put, List.setIfInBounds_toArray, List.set_cons_zero, List.set_cons_succ])
      refine wpAnyH_take (i := 12) (v := ?_) rfl (by kernel_rfl) (by kernel_rfl) (by kernel_rfl) (fun _ _ _ h => h) (Or.inl ⟨by rfl, ?_⟩) (by assumption) ?_
      rotate_left
      · intro w' hSw; (try dsimp only at hSw); (try simp only [List.getElem_toArray, List.getElem_cons_zero, List.getElem_cons_succ]); go_simp; try with_reducible rfl
      (try simp only [List.getElem_toArray, List.getElem_cons_zero, List.getElem_cons_succ, Act.put, List.setIfInBounds_toArray, List.set_cons_zero, List.set_cons_succ])
      refine wpAnyH_take (i := 13) (v := ?_) rfl (by kernel_rfl) (by kernel_rfl) (by kernel_rfl) (fun _ _ _ h => h) (Or.inl ⟨by rfl, ?_⟩) (by assumption) ?_
      rotate_left
      · intro w' hSw; (try dsimp only at hSw); (try simp only [List.getElem_toArray, List.getElem_cons_zero, List.getElem_cons_succ]); go_simp; try with_reducible rfl
      (try simp only [List.getElem_toArray, List.getElem_cons_zero, List.getElem_cons_succ, Act.put, List.setIfInBounds_toArray, List.set_cons_zero, List.set_cons_succ])
      refine wpAnyH_take (i := 14) (v := ?_) rfl (by kernel_rfl) (by kernel_rfl) (by kernel_rfl) (fun _ _ _ h => h) (Or.inl ⟨by rfl, ?_⟩) (by assumption) ?_
      rotate_left
      · intro w' hSw; (try dsimp only at hSw); (try simp only [List.getElem_toArray, List.getElem_cons_zero, List.getElem_cons_succ]); go_simp; try with_reducible rfl
      (try simp only [List.getElem_toArray, List.getElem_cons_zero, List.getElem_cons_succ, Act.put, List.setIfInBounds_toArray, List.set_cons_zero, List.set_cons_succ])
      refine wpAnyH_ready (rs := [1, 15]) (by kernel_rfl) (by simp) ?_
      refine (AllReadyH.cons rfl (fun K' hK => ?_) (AllReadyH.cons rfl (fun K' hK => ?_) AllReadyH.nil))
      · skip
        obtain ⟨f1, f2, f3, f4, f5, f6, f7⟩ := UnpP.has3 HR0.out
        go_simp
        (try go_split_ands)
        clear f1 f2 f3 f4 f5 f6 f7
        refine hK.out _ _ (Hb.out _ X0.out) (fun hHeld => ?_)
        clear hK K'
        (try simp only [List.getElem_toArray, List.getElem_cons_zero, List.getElem_cons_succ, Act.put, List.setIfInBounds_toArray, List.set_cons_zero, List.set_cons_succ])
        refine wpAnyH_ready (rs := [15]) (by kernel_rfl) (by simp) ?_
        refine (AllReadyH.cons rfl (fun K' hK => ?_) AllReadyH.nil)
        go_simp
        (try go_split_ands)
        go_at_call 21
        (with_reducible refine (CR.out _ K0.out).mono ?_)
        rintro e w21 ⟨q7, d7, rfl, s7, n7, k7⟩
        have X1 := Lib.hid (Lt.below X0.out k7)
        have K1 := Lib.hid (next0 K0.out k7)
        have HR1 := Lib.hid (HR0.out.step0 k7)
        have O1 := Lib.hid (O0.out.below k7)
        have hz1 : wz.heap.size ≤ w21.heap.size := k7.size
        obtain ⟨lo, hlo⟩ : ∃ m, m = wz.heap.size := ⟨_, rfl⟩
        obtain ⟨hi, hhi⟩ : ∃ m, m = w21.heap.size := ⟨_, rfl⟩
        rw [← hlo, ← hhi] at s7
        have S1 := Lib.hid s7
        have N7 := Lib.hid n7
        clear s7 n7 k7
        refine hK.out _ _ (Hb.out _ X1.out) (fun hHeld => ?_)
        clear hK K'
        (try simp only [List.getElem_toArray, List.getElem_cons_zero, List.getElem_cons_succ, Act.put, List.setIfInBounds_toArray, List.set_cons_zero, List.set_cons_succ])
        refine wpAnyH_take (i := 16) (v := ?_) rfl (by kernel_rfl) (by kernel_rfl) (by kernel_rfl) (fun _ _ _ h => h) (Or.inl ⟨by rfl, ?_⟩) (by assumption) ?_
        rotate_left
        · intro w' hSw; (try dsimp only at hSw); (try simp only [List.getElem_toArray, List.getElem_cons_zero, List.getElem_cons_succ]); go_simp; try with_reducible rfl
        (try simp only [List.getElem_toArray, List.getElem_cons_zero, List.getElem_cons_succ, Act.put, List.setIfInBounds_toArray, List.set_cons_zero, List.set_cons_succ])
        refine wpAnyH_ready (rs := [17]) (by kernel_rfl) (by simp) ?_
        refine (AllReadyH.cons rfl (fun K' hK => ?_) AllReadyH.nil)
        go_simp
        (try go_split_ands)
        obtain ⟨w22, hw2⟩ : ∃ z, z = w21.alloc (.cells #[.bool xb, .string un, .slice q7 ul d7] 67) := ⟨_, rfl⟩
        rw [← hw2]
        have J2 : Hid (Below w21.heap.size w21 w22) := Lib.hid (by rw [hw2]; exact below_alloc _ _)
        have HB2 : Hid (Has w22 w21.heap.size #[.bool xb, .string un, .slice q7 ul d7]) := Lib.hid (by rw [hw2]; exact Has.new _ _ _)
        have hz2 : w21.heap.size + 1 ≤ w22.heap.size := by rw [hw2]; simp
        clear hw2
        have X2 := Lib.hid (Lt.below X1.out J2.out)
        have K2 := Lib.hid (next0 K1.out J2.out)
        have HR2 := Lib.hid (HR1.out.step0 J2.out)
        have O2 := Lib.hid (O1.out.below J2.out)
        have S2 := Lib.hid (S1.out.frame (w' := w22) fun b o hb => J2.out.cell (p := ⟨b, o, none⟩) (okx1 OK0.out (show w.heap.size ≤ w21.heap.size by omega) (show hi ≤ w21.heap.size by omega) b hb))
        refine hK.out _ _ (Hb.out _ X2.out) (fun hHeld => ?_)
        clear hK K'
        (try simp only [List.getElem_toArray, List.getElem_cons_zero, List.getElem_cons_succ, Act.put, List.setIfInBounds_toArray, List.set_cons_zero, List.set_cons_succ])
        refine wpAnyH_ready (rs := [18]) (by kernel_rfl) (by simp) ?_
        refine (AllReadyH.cons rfl (fun K' hK => ?_) AllReadyH.nil)
        refine step_append_lies _ rfl _ _ 32 rfl (R + 1) 67 i0 (.agg #[.bool false, .string ⟨#[]⟩, .slice none 0 0]) 3 48 Tryz.underlying32 hi0 hi1 hi2 hi3 rfl (by decide) (.slice va L.length vc) L.length (KL.flat L) rfl O2.out.1 ⟨w21.heap.size, 0, none⟩ 1 1 [.bool xb, .string un, .slice q7 ul d7] rfl rfl (World.news_of_block HB2.out.choose_spec) (one_L _ _ _ _ _) (by decide) A1 A2 (show R + 1 ≤ w22.heap.size by omega) _ rfl ?_
        intro g9 c9 w9 hown hgrow hat hlt9
        have OL9 := OL.out
        have X9 := Lib.hid (Lt.grown X2.out hgrow (fun k e => Or.inl (Or.inr e)))
        have L9 : Hid (Lt (fun b => (Value.slice va L.length vc).ownBlock = some b) w22 w9) := Lib.hid (Lt.grown (Lt.of (Below.refl _ _)) hgrow (fun k e => Or.inl e))
        have HR9 := Lib.hid (L9.out.has HR2.out (fun e => by have := OL9 _ e; omega))
        have O9 := Lib.hid (OwnX.add (K := KL) (x := ((xb, φ x.2), Value.slice q7 ul d7)) O2.out (AD.out _ _ _ S2.out N7.out) (okx2 OK0.out (show w.heap.size ≤ R by omega) (show R + 1 ≤ lo by omega) (show w.heap.size ≤ w22.heap.size by omega) (show hi ≤ w22.heap.size by omega) (fun k e => by have := OL9 k e; omega)) (AF.out _ _ _ _ hown) L9.out (hat.imp id fun h => Nat.le_of_eq h.symm))
        have hz9 : w22.heap.size ≤ w9.heap.size := L9.out.size
        clear hown hgrow OL9
        refine hK.out _ _ (Hb.out _ X9.out) (fun hHeld => ?_)
        clear hK K'
        (try simp only [List.getElem_toArray, List.getElem_cons_zero, List.getElem_cons_succ, Act.put, List.setIfInBounds_toArray, List.set_cons_zero, List.set_cons_succ])
        refine wpAnyH_take (i := 19) (v := ?_) rfl (by kernel_rfl) (by kernel_rfl) (by kernel_rfl) (fun _ _ _ h => h) (Or.inl ⟨by rfl, ?_⟩) (by assumption) ?_
        rotate_left
        · intro w' hSw; (try dsimp only at hSw); (try simp only [List.getElem_toArray, List.getElem_cons_zero, List.getElem_cons_succ]); go_simp; try with_reducible rfl
        (try simp only [List.getElem_toArray, List.getElem_cons_zero, List.getElem_cons_succ, Act.put, List.setIfInBounds_toArray, List.set_cons_zero, List.set_cons_succ])
        refine wpAnyH_ready (rs := [20]) (by kernel_rfl) (by simp) ?_
        refine (AllReadyH.cons rfl (fun K' hK => ?_) AllReadyH.nil)
        obtain ⟨f1, f2, f3, f4, f5, f6, f7⟩ := UnpP.has3 HR9.out
        go_simp
        (try go_split_ands)
        obtain ⟨w10, hw10⟩ : ∃ z, z = w9.setCell ⟨R, 2, none⟩ (.slice (some ⟨g9, 0, none⟩) (L.length + 1) c9) := ⟨_, rfl⟩
        rw [← hw10]
        have X10 : Hid (Lt (fun b => b = R ∨ (Value.slice va L.length vc).ownBlock = some b) wr w10) := Lib.hid (by rw [hw10]; exact X9.out.put (Or.inl (Or.inl rfl)) _)
        have HR10 : Hid (Has w10 R #[.string hu, .slice q hl d, .slice (some ⟨g9, 0, none⟩) (L.length + 1) c9]) := Lib.hid (by rw [hw10]; exact HR9.out.set 2 _)
        have P10 : Hid (Lt (· = R) w9 w10) := Lib.hid (by rw [hw10]; exact Lt.put (ex := (· = R)) (p := ⟨R, 2, none⟩) (Lt.of (Below.refl _ _)) (Or.inl rfl) _)
        have O10 := Lib.hid (O9.out.lt P10.out (fun i e => by subst e; exact ⟨by omega, fun h => by have := OK0.out _ h; omega⟩))
        have OL10 := OL.out
        have D10 := Lib.hid (next9 K.out X10.out (fun k e => by rcases e with e | e; omega; have := OL10 k e; omega))
        have E10 := Lib.hid (X10.out.has EQ5.out (fun e => by rcases e with e | e; omega; have := OL10 _ e; omega))
        have S10 := Lib.hid (SQ5.out.frame (w' := w10) fun b o hb => X10.out.cell (okx1 OK0.out (show w.heap.size ≤ wr.heap.size by omega) (show R ≤ wr.heap.size by omega) b hb) (fun e => by have h1 := okx1 OK0.out (show w.heap.size ≤ R by omega) (Nat.le_refl R) b hb; rcases e with e | e; omega; have := OL10 _ e; omega))
        clear hw10 f1 f2 f3 f4 f5 f6 f7 OL10
        refine hK.out _ _ (Hb.out _ X10.out) (fun hHeld => ?_)
        clear hK K'
        (try simp only [List.getElem_toArray, List.getElem_cons_zero, List.getElem_cons_succ, Act.put, List.setIfInBounds_toArray, List.set_cons_zero, List.set_cons_succ])
        refine wpAnyH_done (by kernel_rfl) ?_ _
        go_wp2_with fail
        go_roundw
        case rel => exact ⟨k + 1, L ++ [((xb, φ x.2), .slice q7 ul d7)], _, by omega, by go_num, Lib.hid (HM1.out _), O10, HR10, E10, Lib.hid (X10.out.has HX.out (fun e => by rcases e with e | e; omega; have := OL.out _ e; omega)), S10, D10⟩
        case measure => simp [intOf]; omega
      · skip
        go_simp
        (try go_split_ands)
        go_at_call 21
        (with_reducible refine (CR.out _ K0.out).mono ?_)
        rintro e w24 ⟨q7, d7, rfl, s7, n7, k7⟩
        have X4 := Lib.hid (Lt.below X0.out k7)
        have K4 := Lib.hid (next0 K0.out k7)
        have HR4 := Lib.hid (HR0.out.step0 k7)
        have O4 := Lib.hid (O0.out.below k7)
        have hz4 : wz.heap.size ≤ w24.heap.size := k7.size
        obtain ⟨lo, hlo⟩ : ∃ m, m = wz.heap.size := ⟨_, rfl⟩
        obtain ⟨hi, hhi⟩ : ∃ m, m = w24.heap.size := ⟨_, rfl⟩
        rw [← hlo, ← hhi] at s7
        have S4 := Lib.hid s7
        have N7 := Lib.hid n7
        clear s7 n7 k7
        refine hK.out _ _ (Hb.out _ X4.out) (fun hHeld => ?_)
        clear hK K'
        (try simp only [List.getElem_toArray, List.getElem_cons_zero, List.getElem_cons_succ, Act.put, List.setIfInBounds_toArray, List.set_cons_zero, List.set_cons_succ])
        refine wpAnyH_take (i := 16) (v := ?_) rfl (by kernel_rfl) (by kernel_rfl) (by kernel_rfl) (fun _ _ _ h => h) (Or.inl ⟨by rfl, ?_⟩) (by assumption) ?_
        rotate_left
        · intro w' hSw; (try dsimp only at hSw); (try simp only [List.getElem_toArray, List.getElem_cons_zero, List.getElem_cons_succ]); go_simp; try with_reducible rfl
        (try simp only [List.getElem_toArray, List.getElem_cons_zero, List.getElem_cons_succ, Act.put, List.setIfInBounds_toArray, List.set_cons_zero, List.set_cons_succ])
        refine wpAnyH_ready (rs := [1, 17]) (by kernel_rfl) (by simp) ?_
        refine (AllReadyH.cons rfl (fun K' hK => ?_) (AllReadyH.cons rfl (fun K' hK => ?_) AllReadyH.nil))
        · skip
          obtain ⟨f1, f2, f3, f4, f5, f6, f7⟩ := UnpP.has3 HR4.out
          go_simp
          (try go_split_ands)
          clear f1 f2 f3 f4 f5 f6 f7
          refine hK.out _ _ (Hb.out _ X4.out) (fun hHeld => ?_)
          clear hK K'
          (try simp only [List.getElem_toArray, List.getElem_cons_zero, List.getElem_cons_succ, Act.put, List.setIfInBounds_toArray, List.set_cons_zero, List.set_cons_succ])
          refine wpAnyH_ready (rs := [17]) (by kernel_rfl) (by simp) ?_
          refine (AllReadyH.cons rfl (fun K' hK => ?_) AllReadyH.nil)
          go_simp
          (try go_split_ands)
          obtain ⟨w25, hw5⟩ : ∃ z, z = w24.alloc (.cells #[.bool xb, .string un, .slice q7 ul d7] 67) := ⟨_, rfl⟩
          rw [← hw5]
          have J5 : Hid (Below w24.heap.size w24 w25) := Lib.hid (by rw [hw5]; exact below_alloc _ _)
          have HB5 : Hid (Has w25 w24.heap.size #[.bool xb, .string un, .slice q7 ul d7]) := Lib.hid (by rw [hw5]; exact Has.new _ _ _)
          have hz5 : w24.heap.size + 1 ≤ w25.heap.size := by rw [hw5]; simp
          clear hw5
          have X5 := Lib.hid (Lt.below X4.out J5.out)
          have K5 := Lib.hid (next0 K4.out J5.out)
          have HR5 := Lib.hid (HR4.out.step0 J5.out)
          have O5 := Lib.hid (O4.out.below J5.out)
          have S5 := Lib.hid (S4.out.frame (w' := w25) fun b o hb => J5.out.cell (p := ⟨b, o, none⟩) (okx1 OK0.out (show w.heap.size ≤ w24.heap.size by omega) (show hi ≤ w24.heap.size by omega) b hb))
          refine hK.out _ _ (Hb.out _ X5.out) (fun hHeld => ?_)
          clear hK K'
          (try simp only [List.getElem_toArray, List.getElem_cons_zero, List.getElem_cons_succ, Act.put, List.setIfInBounds_toArray, List.set_cons_zero, List.set_cons_succ])
          refine wpAnyH_ready (rs := [18]) (by kernel_rfl) (by simp) ?_
          refine (AllReadyH.cons rfl (fun K' hK => ?_) AllReadyH.nil)
          refine step_append_lies _ rfl _ _ 32 rfl (R + 1) 67 i0 (.agg #[.bool false, .string ⟨#[]⟩, .slice none 0 0]) 3 48 Tryz.underlying32 hi0 hi1 hi2 hi3 rfl (by decide) (.slice va L.length vc) L.length (KL.flat L) rfl O5.out.1 ⟨w24.heap.size, 0, none⟩ 1 1 [.bool xb, .string un, .slice q7 ul d7] rfl rfl (World.news_of_block HB5.out.choose_spec) (one_L _ _ _ _ _) (by decide) A1 A2 (show R + 1 ≤ w25.heap.size by omega) _ rfl ?_
          intro g9 c9 w9 hown hgrow hat hlt9
          have OL9 := OL.out
          have X9 := Lib.hid (Lt.grown X5.out hgrow (fun k e => Or.inl (Or.inr e)))
          have L9 : Hid (Lt (fun b => (Value.slice va L.length vc).ownBlock = some b) w25 w9) := Lib.hid (Lt.grown (Lt.of (Below.refl _ _)) hgrow (fun k e => Or.inl e))
          have HR9 := Lib.hid (L9.out.has HR5.out (fun e => by have := OL9 _ e; omega))
          have O9 := Lib.hid (OwnX.add (K := KL) (x := ((xb, φ x.2), Value.slice q7 ul d7)) O5.out (AD.out _ _ _ S5.out N7.out) (okx2 OK0.out (show w.heap.size ≤ R by omega) (show R + 1 ≤ lo by omega) (show w.heap.size ≤ w25.heap.size by omega) (show hi ≤ w25.heap.size by omega) (fun k e => by have := OL9 k e; omega)) (AF.out _ _ _ _ hown) L9.out (hat.imp id fun h => Nat.le_of_eq h.symm))
          have hz9 : w25.heap.size ≤ w9.heap.size := L9.out.size
          clear hown hgrow OL9
          refine hK.out _ _ (Hb.out _ X9.out) (fun hHeld => ?_)
          clear hK K'
          (try simp only [List.getElem_toArray, List.getElem_cons_zero, List.getElem_cons_succ, Act.put, List.setIfInBounds_toArray, List.set_cons_zero, List.set_cons_succ])
          refine wpAnyH_take (i := 19) (v := ?_) rfl (by kernel_rfl) (by kernel_rfl) (by kernel_rfl) (fun _ _ _ h => h) (Or.inl ⟨by rfl, ?_⟩) (by assumption) ?_
          rotate_left
          · intro w' hSw; (try dsimp only at hSw); (try simp only [List.getElem_toArray, List.getElem_cons_zero, List.getElem_cons_succ]); go_simp; try with_reducible rfl
          (try simp only [List.getElem_toArray, List.getElem_cons_zero, List.getElem_cons_succ, Act.put, List.setIfInBounds_toArray, List.set_cons_zero, List.set_cons_succ])
          refine wpAnyH_ready (rs := [20]) (by kernel_rfl) (by simp) ?_
          refine (AllReadyH.cons rfl (fun K' hK => ?_) AllReadyH.nil)
          obtain ⟨f1, f2, f3, f4, f5, f6, f7⟩ := UnpP.has3 HR9.out
          go_simp
          (try go_split_ands)
          obtain ⟨w10, hw10⟩ : ∃ z, z = w9.setCell ⟨R, 2, none⟩ (.slice (some ⟨g9, 0, none⟩) (L.length + 1) c9) := ⟨_, rfl⟩
          rw [← hw10]
          have X10 : Hid (Lt (fun b => b = R ∨ (Value.slice va L.length vc).ownBlock = some b) wr w10) := Lib.hid (by rw [hw10]; exact X9.out.put (Or.inl (Or.inl rfl)) _)
          have HR10 : Hid (Has w10 R #[.string hu, .slice q hl d, .slice (some ⟨g9, 0, none⟩) (L.length + 1) c9]) := Lib.hid (by rw [hw10]; exact HR9.out.set 2 _)
          have P10 : Hid (Lt (· = R) w9 w10) := Lib.hid (by rw [hw10]; exact Lt.put (ex := (· = R)) (p := ⟨R, 2, none⟩) (Lt.of (Below.refl _ _)) (Or.inl rfl) _)
          have O10 := Lib.hid (O9.out.lt P10.out (fun i e => by subst e; exact ⟨by omega, fun h => by have := OK0.out _ h; omega⟩))
          have OL10 := OL.out
          have D10 := Lib.hid (next9 K.out X10.out (fun k e => by rcases e with e | e; omega; have := OL10 k e; omega))
          have E10 := Lib.hid (X10.out.has EQ5.out (fun e => by rcases e with e | e; omega; have := OL10 _ e; omega))
          have S10 := Lib.hid (SQ5.out.frame (w' := w10) fun b o hb => X10.out.cell (okx1 OK0.out (show w.heap.size ≤ wr.heap.size by omega) (show R ≤ wr.heap.size by omega) b hb) (fun e => by have h1 := okx1 OK0.out (show w.heap.size ≤ R by omega) (Nat.le_refl R) b hb; rcases e with e | e; omega; have := OL10 _ e; omega))
          clear hw10 f1 f2 f3 f4 f5 f6 f7 OL10
          refine hK.out _ _ (Hb.out _ X10.out) (fun hHeld => ?_)
          clear hK K'
          (try simp only [List.getElem_toArray, List.getElem_cons_zero, List.getElem_cons_succ, Act.put, List.setIfInBounds_toArray, List.set_cons_zero, List.set_cons_succ])
          refine wpAnyH_done (by kernel_rfl) ?_ _
          go_wp2_with fail
          go_roundw
          case rel => exact ⟨k + 1, L ++ [((xb, φ x.2), .slice q7 ul d7)], _, by omega, by go_num, Lib.hid (HM1.out _), O10, HR10, E10, Lib.hid (X10.out.has HX.out (fun e => by rcases e with e | e; omega; have := OL.out _ e; omega)), S10, D10⟩
          case measure => simp [intOf]; omega
        · skip
          go_simp
          (try go_split_ands)
          obtain ⟨w27, hw7⟩ : ∃ z, z = w24.alloc (.cells #[.bool xb, .string un, .slice q7 ul d7] 67) := ⟨_, rfl⟩
          rw [← hw7]
          have J7 : Hid (Below w24.heap.size w24 w27) := Lib.hid (by rw [hw7]; exact below_alloc _ _)
          have HB7 : Hid (Has w27 w24.heap.size #[.bool xb, .string un, .slice q7 ul d7]) := Lib.hid (by rw [hw7]; exact Has.new _ _ _)
          have hz7 : w24.heap.size + 1 ≤ w27.heap.size := by rw [hw7]; simp
          clear hw7
          have X7 := Lib.hid (Lt.below X4.out J7.out)
          have K7 := Lib.hid (next0 K4.out J7.out)
          have HR7 := Lib.hid (HR4.out.step0 J7.out)
          have O7 := Lib.hid (O4.out.below J7.out)
          have S7 := Lib.hid (S4.out.frame (w' := w27) fun b o hb => J7.out.cell (p := ⟨b, o, none⟩) (okx1 OK0.out (show w.heap.size ≤ w24.heap.size by omega) (show hi ≤ w24.heap.size by omega) b hb))
          refine hK.out _ _ (Hb.out _ X7.out) (fun hHeld => ?_)
          clear hK K'
          (try simp only [List.getElem_toArray, List.getElem_cons_zero, List.getElem_cons_succ, Act.put, List.setIfInBounds_toArray, List.set_cons_zero, List.set_cons_succ])
          refine wpAnyH_ready (rs := [1]) (by kernel_rfl) (by simp) ?_
          refine (AllReadyH.cons rfl (fun K' hK => ?_) AllReadyH.nil)
          obtain ⟨f1, f2, f3, f4, f5, f6, f7⟩ := UnpP.has3 HR7.out
          go_simp
          (try go_split_ands)
          clear f1 f2 f3 f4 f5 f6 f7
          refine hK.out _ _ (Hb.out _ X7.out) (fun hHeld => ?_)
          clear hK K'
          (try simp only [List.getElem_toArray, List.getElem_cons_zero, List.getElem_cons_succ, Act.put, List.setIfInBounds_toArray, List.set_cons_zero, List.set_cons_succ])
          refine wpAnyH_ready (rs := [18]) (by kernel_rfl) (by simp) ?_
          refine (AllReadyH.cons rfl (fun K' hK => ?_) AllReadyH.nil)
          refine step_append_lies _ rfl _ _ 32 rfl (R + 1) 67 i0 (.agg #[.bool false, .string ⟨#[]⟩, .slice none 0 0]) 3 48 Tryz.underlying32 hi0 hi1 hi2 hi3 rfl (by decide) (.slice va L.length vc) L.length (KL.flat L) rfl O7.out.1 ⟨w24.heap.size, 0, none⟩ 1 1 [.bool xb, .string un, .slice q7 ul d7] rfl rfl (World.news_of_block HB7.out.choose_spec) (one_L _ _ _ _ _) (by decide) A1 A2 (show R + 1 ≤ w27.heap.size by omega) _ rfl ?_
          intro g9 c9 w9 hown hgrow hat hlt9
          have OL9 := OL.out
          have X9 := Lib.hid (Lt.grown X7.out hgrow (fun k e => Or.inl (Or.inr e)))
          have L9 : Hid (Lt (fun b => (Value.slice va L.length vc).ownBlock = some b) w27 w9) := Lib.hid (Lt.grown (Lt.of (Below.refl _ _)) hgrow (fun k e => Or.inl e))
          have HR9 := Lib.hid (L9.out.has HR7.out (fun e => by have := OL9 _ e; omega))
          have O9 := Lib.hid (OwnX.add (K := KL) (x := ((xb, φ x.2), Value.slice q7 ul d7)) O7.out (AD.out _ _ _ S7.out N7.out) (okx2 OK0.out (show w.heap.size ≤ R by omega) (show R + 1 ≤ lo by omega) (show w.heap.size ≤ w27.heap.size by omega) (show hi ≤ w27.heap.size by omega) (fun k e => by have := OL9 k e; omega)) (AF.out _ _ _ _ hown) L9.out (hat.imp id fun h => Nat.le_of_eq h.symm))
          have hz9 : w27.heap.size ≤ w9.heap.size := L9.out.size
          clear hown hgrow OL9
          refine hK.out _ _ (Hb.out _ X9.out) (fun hHeld => ?_)
          clear hK K'
          (try simp only [List.getElem_toArray, List.getElem_cons_zero, List.getElem_cons_succ, Act.put, List.setIfInBounds_toArray, List.set_cons_zero, List.set_cons_succ])
          refine wpAnyH_take (i := 19) (v := ?_) rfl (by kernel_rfl) (by kernel_rfl) (by kernel_rfl) (fun _ _ _ h => h) (Or.inl ⟨by rfl, ?_⟩) (by assumption) ?_
          rotate_left
          · intro w' hSw; (try dsimp only at hSw); (try simp only [List.getElem_toArray, List.getElem_cons_zero, List.getElem_cons_succ]); go_simp; try with_reducible rfl
          (try simp only [List.getElem_toArray, List.getElem_cons_zero, List.getElem_cons_succ, Act.put, List.setIfInBounds_toArray, List.set_cons_zero, List.set_cons_succ])
          refine wpAnyH_ready (rs := [20]) (by kernel_rfl) (by simp) ?_
          refine (AllReadyH.cons rfl (fun K' hK => ?_) AllReadyH.nil)
          obtain ⟨f1, f2, f3, f4, f5, f6, f7⟩ := UnpP.has3 HR9.out
          go_simp
          (try go_split_ands)
          obtain ⟨w10, hw10⟩ : ∃ z, z = w9.setCell ⟨R, 2, none⟩ (.slice (some ⟨g9, 0, none⟩) (L.length + 1) c9) := ⟨_, rfl⟩
          rw [← hw10]
          have X10 : Hid (Lt (fun b => b = R ∨ (Value.slice va L.length vc).ownBlock = some b) wr w10) := Lib.hid (by rw [hw10]; exact X9.out.put (Or.inl (Or.inl rfl)) _)
          have HR10 : Hid (Has w10 R #[.string hu, .slice q hl d, .slice (some ⟨g9, 0, none⟩) (L.length + 1) c9]) := Lib.hid (by rw [hw10]; exact HR9.out.set 2 _)
          have P10 : Hid (Lt (· = R) w9 w10) := Lib.hid (by rw [hw10]; exact Lt.put (ex := (· = R)) (p := ⟨R, 2, none⟩) (Lt.of (Below.refl _ _)) (Or.inl rfl) _)
          have O10 := Lib.hid (O9.out.lt P10.out (fun i e => by subst e; exact ⟨by omega, fun h => by have := OK0.out _ h; omega⟩))
          have OL10 := OL.out
          have D10 := Lib.hid (next9 K.out X10.out (fun k e => by rcases e with e | e; omega; have := OL10 k e; omega))
          have E10 := Lib.hid (X10.out.has EQ5.out (fun e => by rcases e with e | e; omega; have := OL10 _ e; omega))
          have S10 := Lib.hid (SQ5.out.frame (w' := w10) fun b o hb => X10.out.cell (okx1 OK0.out (show w.heap.size ≤ wr.heap.size by omega) (show R ≤ wr.heap.size by omega) b hb) (fun e => by have h1 := okx1 OK0.out (show w.heap.size ≤ R by omega) (Nat.le_refl R) b hb; rcases e with e | e; omega; have := OL10 _ e; omega))
          clear hw10 f1 f2 f3 f4 f5 f6 f7 OL10
          refine hK.out _ _ (Hb.out _ X10.out) (fun hHeld => ?_)
          clear hK K'
          (try simp only [List.getElem_toArray, List.getElem_cons_zero, List.getElem_cons_succ, Act.put, List.setIfInBounds_toArray, List.set_cons_zero, List.set_cons_succ])
          refine wpAnyH_done (by kernel_rfl) ?_ _
          go_wp2_with fail
          go_roundw
          case rel => exact ⟨k + 1, L ++ [((xb, φ x.2), .slice q7 ul d7)], _, by omega, by go_num, Lib.hid (HM1.out _), O10, HR10, E10, Lib.hid (X10.out.has HX.out (fun e => by rcases e with e | e; omega; have := OL.out _ e; omega)), S10, D10⟩
          case measure => simp [intOf]; omega
    · obtain rfl : k = n := by omega
      have MM : Hid (L.map (·.1) = atomsL φ l) := Lib.hid (by rw [hM.out, AE.out])
      have RW := hO.out.row
      have LI : Hid (LIn (fun b => ok0 b ∨ (R + 1 ≤ b ∧ b < wr.heap.size)) wr (atomsL φ l) (.slice va L.length vc)) := Lib.hid ⟨L, MM.out, RW⟩
      obtain ⟨f1, f2, f3, f4, f5, f6, f7⟩ := UnpP.has3 hRb.out
      obtain ⟨g1, g2, g3, g4, g5, g6, g7⟩ := UnpP.has3 hE.out
      obtain ⟨W9, hW9⟩ : ∃ z, z = ((wr.setCell ⟨w.heap.size + 1, 0, none⟩ (.string hu)).setCell ⟨w.heap.size + 1, 1, none⟩ (.slice q hl d)).setCell ⟨w.heap.size + 1, 2, none⟩ (.slice va L.length vc) := ⟨_, rfl⟩
      have R6 := put3 hE.out (.string hu) (.slice q hl d) (.slice va L.length vc)
      obtain ⟨r1, r2, r3⟩ := UniA.three R6
      have P9 : Hid (Lt (· = w.heap.size + 1) wr W9) := Lib.hid (by rw [hW9]; exact Lt.put (ex := (· = w.heap.size + 1)) (p := ⟨w.heap.size + 1, 2, none⟩) (Lt.put (ex := (· = w.heap.size + 1)) (p := ⟨w.heap.size + 1, 1, none⟩) (Lt.put (ex := (· = w.heap.size + 1)) (p := ⟨w.heap.size + 1, 0, none⟩) (Lt.of (Below.refl _ _)) (Or.inl rfl) _) (Or.inl rfl) _) (Or.inl rfl) _)
      have D9 := Lib.hid (next9 hD.out P9.out (fun i e => by subst e; omega))
      have hz9 := P9.out.size
      have S9 := Lib.hid (hS.out.frame (w' := W9) fun b o hb => P9.out.cell (okx1 OK0.out hD.out.size (show R ≤ wr.heap.size by omega) b hb) (fun e => by rcases hb with hb | hb; have := OK0.out b hb; omega; omega))
      have L9 := Lib.hid (LI.out.keep (w' := W9) fun b o hb => P9.out.cell (okx1 OK0.out hD.out.size (Nat.le_refl _) b hb) (fun e => by rcases hb with hb | hb; have := OK0.out b hb; omega; omega))
      have X9 : Hid (RuX ok0 u (atomsL φ l) w (.returned (.agg #[.string hu, .slice q hl d, .slice va L.length vc])) W9) := Lib.hid ⟨q, d, _, by rw [HHU.out, HHL.out], by rw [HHL.out]; exact S9.out.weaken fun b hb => hb.imp id fun h => ⟨by omega, by omega⟩, L9.out.wide fun b hb => hb.imp id fun h => ⟨by omega, by omega⟩, by rw [HHU.out]; exact NU.out, D9.out⟩
      have HW9 := Lib.hid hW9
      clear R6 RW LI MM S9 L9 P9 D9 hz9 hW9
      go_wp2_with fail
      refine bodyPost_ret (v := .agg #[.string hu, .slice q hl d, .slice va L.length vc]) (by simp [results, Tryz.results24, go_sem, r1, r2, r3]) rfl ?_
      rw [← HW9.out]
      exact X9.out
end UnqC
end Go.Proofs.YtjfgnmmcdgpiiaaGreatDoor
/- ApplyRule of the code: the substitution applied to a rule. Conditions: at most a thousand literals; an ascending substitution; at most a million parts each. -/
namespace Go.Proofs.YtjfgnmmcdgpiiaaGreatDoor
open Go Go.RowKit
namespace UnqD
open LexM TermM TermI Kit TermN TermU UniK UniM UniA UniC UniD UniE UniF UnmH LigY UnqA UnqB
set_option maxRecDepth 100000 in
set_option maxHeartbeats 3200000 in
theorem arule_any (s : List Bd) (hS : Srt s) (hsz : Sz s) (h : Tm) (l : List Lt) (w : World) (sv hv lv : Value) (hss : SIn (· < w.heap.size) w s sv) (hs : SlIn (· < w.heap.size) w h.args hv) (hl : LIn (· < w.heap.size) w l lv) (hn : h.nm.size ≤ maxLen) (hll : l.length ≤ 1000) (hz : sizeT h ≤ 1000000) (hzl : ∀ x ∈ l, sizeT x.2 ≤ 1000000) :
    Calls Tryz.prog 23 #[sv, .agg #[.string h.nm, hv, lv]] w (RuX (fun _ => False) (appT s h) (atomsL (appT s) l) w) := by
  obtain ⟨p, c, rfl⟩ := hs.form
  obtain ⟨lp, lc, rfl⟩ := hl.form
  obtain ⟨ps, cs, hsv⟩ := hss.form
  have CB := Lib.hid (fun (w' : World) (g : Nat) (k : Below w.heap.size w w') (hg : Has w' g #[sv]) =>
    rir_any (.func (.func 79) #[] #[.pointer (some ⟨g, 0, none⟩)]) (fun _ => False) (appT s) h l w' (.slice p h.args.length c) (.slice lp l.length lc) ((hs.deep k (Nat.le_refl _)).weaken fun b hb => Nat.lt_of_lt_of_le hb k.size) ((hl.keep fun b o hb => k.cell (p := ⟨b, o, none⟩) hb).wide fun b hb => Nat.lt_of_lt_of_le hb k.size) hn hll (fun b hb => hb.elim)
      (fun t w1 q ht k1 hq hn1 => by
        have := replace_any g (leafS s) t w'.heap.size w1 q k1.size hq hn1 (by rcases ht with rfl | ⟨x, hx, rfl⟩; exact hz; exact hzl x hx) (fun w'' n k2 hn2 => replacer_any s n hn2 hS hsz w.heap.size g w'' sv (next0 (next0 k k1) k2).size (hss.deep (next0 (next0 k k1) k2) (Nat.le_refl _)) (hg.step0 (next0 k1 k2)))
        rw [rep_app] at this
        refine this.mono ?_
        rintro e w2 ⟨q2, d2, he, a1, a2, a3⟩
        exact ⟨q2, d2, he, a1.weaken fun b hb => Or.inr hb, a2, a3⟩))
  have CA := Lib.hid (fun w' => replacer_mk sv ps s.length cs hsv w')
  obtain ⟨W2, hW2⟩ : ∃ W2, W2 = (w.alloc (.cells #[.string h.nm, .slice p h.args.length c, .slice lp l.length lc] 34)).alloc (.cells #[.string ⟨#[]⟩, .slice none 0 0, .slice none 0 0] 34) := ⟨_, rfl⟩
  have B2 : Hid (Below w.heap.size w W2) := Lib.hid (by rw [hW2]; exact next0 (below_alloc _ _) (below_alloc _ _))
  have hz2w : w.heap.size + 2 ≤ W2.heap.size := by rw [hW2]; simp
  have H2 : Hid (Has W2 w.heap.size #[.string h.nm, .slice p h.args.length c, .slice lp l.length lc]) := Lib.hid (by rw [hW2]; exact (Has.new w _ _).alloc _)
  have E2 : Hid (Has W2 (w.heap.size + 1) #[.string ⟨#[]⟩, .slice none 0 0, .slice none 0 0]) := Lib.hid (by rw [hW2]; exact Has.new1 w _ _ _)
  have CB := Lib.hid (fun (w' : World) (g : Nat) (k : Below W2.heap.size W2 w') (hg : Has w' g #[sv]) => CB.out w' g (next0 B2.out k) hg)
  have HB2 := Lib.hid (fun (w' : World) (k : Below W2.heap.size W2 w') => UnpP.has3 (H2.out.step0 k))
  have HE2 := Lib.hid (fun (w' : World) (k : Below W2.heap.size W2 w') => E2.out.step0 k)
  clear hss hs hl hz hzl hn hS hsz hsv
  generalize appT s h = u at *
  generalize atomsL (appT s) l = m at *
  generalize h.nm = tn at *
  generalize h.args.length = ta at *
  generalize l.length = ln at *
  unfold RpR at CA
  unfold RuX at CB ⊢
  obtain ⟨y1, y2, y3, y4, y5, y6, y7⟩ := HB2.out W2 (Below.refl _ _)
  go_enter Tryz.func23, Tryz.ntmps23
  go_upto_region 1 with fail
  rw [← hW2]
  clear hW2
  go_region_with (first
    | (go_at_call 46; (with_reducible refine (CA.out _).mono ?_); rintro e w3 ⟨g, rfl, hH, hb⟩; have D3 : Hid (Below W2.heap.size W2 w3) := Lib.hid (by first | exact hb | exact next0 (Below.refl _ _).drew hb | exact next0 (below_drewN (Below.refl _ _) _) hb); have HG := Lib.hid hH; clear hb hH; obtain ⟨z1, z2, z3, z4, z5, z6, z7⟩ := HB2.out _ D3.out)
    | (go_at_call 48; (with_reducible refine (CB.out _ _ (by first | exact D3.out | exact D3.out.drew | exact below_drewN D3.out _) (by exact HG.out)).mono ?_); rintro e w4 ⟨q, d, v4, rfl, hS, hL, hnu, hb⟩; have D4 : Hid (Below W2.heap.size W2 w4) := Lib.hid (by first | exact next0 D3.out hb | exact next0 D3.out.drew hb | exact next0 (below_drewN D3.out _) hb); have S4 := Lib.hid (hS.weaken (ok' := fun b => W2.heap.size ≤ b ∧ b < w4.heap.size) (fun b hb2 => hb2.elim False.elim fun h => ⟨Nat.le_trans D3.out.size h.1, h.2⟩)); have L4 := Lib.hid (hL.wide (ok' := fun b => W2.heap.size ≤ b ∧ b < w4.heap.size) (fun b hb2 => hb2.elim False.elim fun h => ⟨Nat.le_trans D3.out.size h.1, h.2⟩)); have NU := Lib.hid hnu; have E4 := Lib.hid (HE2.out _ D4.out); obtain ⟨mp, mc, rfl⟩ := hL.form; clear hS hL hnu hb; obtain ⟨e1, e2, e3, e4, e5, e6, e7⟩ := UnpP.has3 E4.out))
  all_goals
    have R6 := put3 E4.out (.string u.nm) (.slice q u.args.length d) (.slice mp m.length mc)
    obtain ⟨r1, r2, r3⟩ := UniA.three R6
    have S5 := Lib.hid (S4.out.frame (w' := ((w4.setCell ⟨w.heap.size + 1, 0, none⟩ (.string u.nm)).setCell ⟨w.heap.size + 1, 1, none⟩ (.slice q u.args.length d)).setCell ⟨w.heap.size + 1, 2, none⟩ (.slice mp m.length mc)) (fun b o hb => by
      rw [cell_far (by show b ≠ w.heap.size + 1; omega), cell_far (by show b ≠ w.heap.size + 1; omega), cell_far (by show b ≠ w.heap.size + 1; omega)]))
    have L5 := Lib.hid (L4.out.keep (w' := ((w4.setCell ⟨w.heap.size + 1, 0, none⟩ (.string u.nm)).setCell ⟨w.heap.size + 1, 1, none⟩ (.slice q u.args.length d)).setCell ⟨w.heap.size + 1, 2, none⟩ (.slice mp m.length mc)) (fun b o hb => by
      rw [cell_far (by show b ≠ w.heap.size + 1; omega), cell_far (by show b ≠ w.heap.size + 1; omega), cell_far (by show b ≠ w.heap.size + 1; omega)]))
    have D5 := Lib.hid ((((next0 B2.out D4.out).setCell (p := ⟨w.heap.size + 1, 0, none⟩) (by simp) (.string u.nm)).setCell (p := ⟨w.heap.size + 1, 1, none⟩) (by simp) (.slice q u.args.length d)).setCell (p := ⟨w.heap.size + 1, 2, none⟩) (by simp) (.slice mp m.length mc))
    clear R6
    go_wp2_with fail
    refine bodyPost_ret (v := .agg #[.string u.nm, .slice q u.args.length d, .slice mp m.length mc]) (by simp [results, Tryz.results23, go_sem, r1, r2, r3]) rfl ?_
    exact ⟨q, d, _, rfl, S5.out.weaken (fun b hb => Or.inr ⟨by omega, by simpa [World.setCell] using hb.2⟩), L5.out.wide (fun b hb => Or.inr ⟨by omega, by simpa [World.setCell] using hb.2⟩), NU.out, D5.out⟩
end UnqD
end Go.Proofs.YtjfgnmmcdgpiiaaGreatDoor
/- What Light's walk wants of rules, atoms and ways, plain and in memory. No conditions. -/
namespace Go.Proofs.YtjfgnmmcdgpiiaaGreatDoor
open Go Go.RowKit Go.Maps Go.WideMaps
namespace LigZ
open Kit LexM TermM TermI TermN TermU TermE UniM UniK UniA UniD UniE UniG UniR LigM LigP LigG LigD LigQ LigE LigW LigV LigU LigX LigY
theorem klenL_size {N : Nat} : ∀ {l : List Tm}, (∀ x ∈ l, klen x + 1 ≤ sizeT x * (N + 3)) → klenL l ≤ sizeL l * (N + 3)
  | [], _ => by simp [klenL]
  | t :: l, h => by
    have h1 := h t (by simp)
    have h2 := klenL_size (l := l) fun x hx => h x (by simp [hx])
    simp only [klenL, sizeL, Nat.add_mul]
    omega
theorem klen_size {N : Nat} (t : Tm) (hg : GN N t) : klen t + 1 ≤ sizeT t * (N + 3) := by
  induction t using Tm.ind with
  | h n l ih =>
    have h1 := klenL_size (N := N) (l := l) fun x hx => ih x hx (gn_arg hg hx)
    have h2 : n.size ≤ N := gn_nm hg
    simp only [klen, sizeT, Nat.add_mul]
    omega
/-- Blocks in which what an atom holds may lie: none of the closure's own, none made later, not the atoms' row. -/
def okz (A B : Nat) (av : Value) (b : Nat) : Prop := (b < A ∨ A + 4 ≤ b) ∧ b < B ∧ av.ownBlock ≠ some b
theorem own_at {A : Nat} {w : World} {L : List (Tm × Value)} {av : Value} (h : OwnA (· < A) (A + 4) w L av) : AtR (okz A w.heap.size av) A w (L.map (·.1)) av := by
  obtain ⟨h1, ok, h2, h3⟩ := h
  have hl := h1.lt
  have hm : (L.map (·.1)).length = L.length := by simp
  rcases h1.2 with ⟨rfl, hz⟩ | ⟨g, cap, cur, rfl, e2, e3, e4, e5, e6, e7⟩
  · exact ⟨none, 0, by rw [hm, hz], fun k hk => by omega⟩
  · refine ⟨_, cap, by rw [hm], fun k hk => ?_⟩
    have hk' : k < L.length := by omega
    obtain ⟨x, hx⟩ : ∃ x, L[k]? = some x := ⟨L[k], by simp [hk']⟩
    obtain ⟨f1, f2⟩ := flatL_get L k x hx
    have hxs := h3 x (List.mem_of_getElem? hx)
    obtain ⟨q, d, eq⟩ := hxs.1.form
    have hg := hl g rfl
    refine ⟨x.1, g, 0, q, d, by simp [hx], rfl, ⟨hg.2, by omega⟩, ?_, ?_, ?_, hxs.2⟩
    · rw [Nat.zero_add]
      exact (h1.cellAt _ (by omega)).trans f1
    · rw [Nat.zero_add, h1.cellAt _ (by omega), f2, eq]
    · rw [← eq]
      exact hxs.1.weaken fun b hk => h2 b hk
theorem Lt.ofCh {r : Nat} {a b : World} (h : Ch r a b) : Lt (· = r) a b := ⟨h.os, h.tape, h.output, h.size, fun i hi hn => h.block i hi (fun e => hn (Option.some.inj e))⟩
theorem St.ch {N K Z A : Nat} {a b : World} {L : List (Tm × Value)} {M : List ByteArray} {av : Value} (h : St N K Z A a L M av) (g : Ch A a b) : St N K Z A b L M av :=
  ⟨(Lt.ofCh g).has h.known (by omega), (Lt.ofCh g).has h.cell (by omega), own_lt h.own (Lt.ofCh g) (fun i e => by subst e; exact ⟨by omega, by omega⟩), (Lt.ofCh g).map h.map (by omega), h.keys, h.good⟩
/-- The rules of a list, three cells each. -/
theorem rin_row {ok : Nat → Prop} {w : World} {l : List Rl} {p : Option Addr} {n c : Nat} (h : RIn ok w l (.slice p n c)) (k : Nat) (hk : k < l.length) : ∃ x g o q d q2 d2, l[k]? = some x ∧ p = some ⟨g, o, none⟩ ∧ ok g ∧ w.cell? ⟨g, o + k * 3, none⟩ = some (.string x.1.nm) ∧ w.cell? ⟨g, o + k * 3 + 1, none⟩ = some (.slice q x.1.args.length d) ∧
    w.cell? ⟨g, o + k * 3 + 1 + 1, none⟩ = some (.slice q2 x.2.length d2) ∧ SlIn ok w x.1.args (.slice q x.1.args.length d) ∧ x.1.nm.size ≤ maxLen ∧ LIn ok w x.2 (.slice q2 x.2.length d2) := by
  obtain ⟨L, rfl, p', c', e, h1, h2, h3, h4⟩ := h
  cases e
  have hk' : k < L.length := by simpa using hk
  obtain ⟨g, o, e1, e2, e3⟩ := h4 (by omega)
  obtain ⟨x, hx⟩ : ∃ x, L[k]? = some x := ⟨L[k], by simp [hk']⟩
  obtain ⟨s1, s2, s3⟩ := h3 x (List.mem_of_getElem? hx)
  obtain ⟨q, d, eq⟩ := s1.form
  obtain ⟨q2, d2, eq2⟩ := s3.form
  refine ⟨x.1, g, o, q, d, q2, d2, by simp [hx], e1, e2, e3 k x hx 0 _ rfl, ?_, ?_, by rw [← eq]; exact s1, s2, by rw [← eq2]; exact s3⟩
  · rw [← eq]; exact e3 k x hx 1 _ rfl
  · rw [← eq2]; exact e3 k x hx 2 _ rfl
/-- What may be handed to the closure. -/
def Gm (N : Nat) (t : Tm) : Prop := GN N t ∧ klen t ≤ 4611686018427387904 ∧ sizeT t ≤ 1000000000000
theorem gm_inst {N : Nat} (hN : (N + 3) * 4000000 ≤ 4611686018427387904) {t u : Tm} (ht : GN N t) (hs : sizeT t ≤ 20) (hu : GN N u ∧ klen u ≤ klen t + sizeT t * ((N + 3) * 20 ^ 4) ∧ sizeT u ≤ sizeT t * 20 ^ 4) : Gm N u := by
  obtain ⟨h1, h2, h3⟩ := hu
  have a := klen_size t ht
  have b : sizeT t * (N + 3) ≤ 20 * (N + 3) := Nat.mul_le_mul_right _ hs
  have c : sizeT t * ((N + 3) * 20 ^ 4) ≤ 20 * ((N + 3) * 20 ^ 4) := Nat.mul_le_mul_right _ hs
  have d : sizeT t * 20 ^ 4 ≤ 20 * 20 ^ 4 := Nat.mul_le_mul_right _ hs
  exact ⟨h1, by omega, by omega⟩
/-- The same arguments under another name. -/
theorem gm_name {N : Nat} (hN : (N + 3) * 4000000 ≤ 4611686018427387904) {t : Tm} {n : ByteArray} (hn : n.size ≤ N) (h4 : n.size ≤ 4) (h : GT N ((N + 3) * 20 ^ 4) (20 ^ 4) t) : Gm N (.mk n t.args) := by
  obtain ⟨m, l⟩ := t
  obtain ⟨h1, h2, h3⟩ := h
  have h1' := h1
  unfold GN at h1'
  simp only [klen] at h2
  simp only [sizeT] at h3
  refine ⟨gn_mk hn h1'.2.1 fun x hx => gn_arg h1 hx, ?_, ?_⟩
  · simp only [klen, Tm.args]; omega
  · simp only [sizeT, Tm.args]; omega
end LigZ
end Go.Proofs.YtjfgnmmcdgpiiaaGreatDoor
/- gameplayerplain.Light: rules evaluated round by round. Conditions: at most a thousand rules of at most eight literals, all atoms of at most twenty parts, short names; good given atoms. -/
namespace Go.Proofs.YtjfgnmmcdgpiiaaGreatDoor
open Go Go.RowKit Go.Maps Go.WideMaps
namespace LihD
open Kit LexM TermM TermI TermN TermU TermE UniM UniK UniA UniD UniE UniG UniR LigM LigP LigG LigD LigQ LigE LigW LigV LigU LigX LigY LigZ UnmB
theorem slin_far2 {ok : Nat → Prop} {w : World} {k : Nat} {l : List Tm} {v : Value} (h : SlIn ok w l v) (hk : ∀ b, ok b → b ≠ k) (a b : Value) : SlIn ok ((w.setCell ⟨k, 0, none⟩ a).setCell ⟨k, 1, none⟩ b) l v :=
  h.frame fun g o hg => by rw [cell_far (by show g ≠ k; exact hk g hg), cell_far (by show g ≠ k; exact hk g hg)]
/-- The state between the closure's calls. -/
def OS (N A b : Nat) (w0 w : World) : Prop := ∃ (L : List (Tm × Value)) (M : List ByteArray) (av : Value) (lf : Int), St N ((N + 3) * 20 ^ 4) (20 ^ 4) A w L M av ∧ Has w A #[.int .i64 lf] ∧ 0 ≤ lf ∧ lf ≤ 1000000 ∧ L.length ≤ b ∧ Below A w0 w
theorem dof_nil : Dof [] = .map [] := rfl
theorem os_add {N A b : Nat} {w0 w w' : World} {L : List (Tm × Value)} {M : List ByteArray} {av : Value} {lf : Int} {e : Ending} (S : St N ((N + 3) * 20 ^ 4) (20 ^ 4) A w L M av) (H : Has w A #[.int .i64 lf]) (h0 : 0 ≤ lf) (h1 : lf ≤ 1000000) (hb : L.length ≤ b) (D : Below A w0 w) (h : AddQ N A w L av e w') : OS N A (b + 1) w0 w' := by
  obtain ⟨_, L', M', av', S', _, hl, lt, _⟩ := h
  have hA := S.cell.lt
  have ho := S.own.1.lt
  refine ⟨L', M', av', lf, S', lt.has H (fun e => ?_), h0, h1, by omega, D.trans (lt.toBelow (by omega) fun i e => ?_)⟩
  · rcases e with e | e | e
    · omega
    · omega
    · have := ho _ e; omega
  · rcases e with e | e | e
    · omega
    · omega
    · have := ho _ e; omega
theorem Ch.lt {ex : Nat → Prop} {r : Nat} {a b c : World} (h : Ch r a b) (g : Lt ex b c) (hx : ∀ i, ex i → a.heap.size ≤ i) : Ch r a c :=
  ⟨g.os.trans h.os, g.tape.trans h.tape, g.output.trans h.output, Nat.le_trans h.size g.size, fun i hi hn => (g.block i (Nat.lt_of_lt_of_le hi h.size) (fun e => by have := hx i e; omega)).trans (h.block i hi hn)⟩
/-- instance, called where the ways were made. -/
theorem ci_i {κ : Nat → Prop} {N : Nat} {w5 wr w' : World} {t : Tm} {ps : List Bd} {tv pv : Value} (hN : (N + 3) * 4000000 ≤ 4611686018427387904) (hκ : ∀ b, κ b → b < w5.heap.size) (h5 : w5.heap.size ≤ wr.heap.size) (hps : GP N ((N + 3) * 20 ^ 4) (20 ^ 4) ps) (hpl : ps.length ≤ 1000000) (ht : SlIn κ wr t.args tv) (hp : PIn κ wr ps pv)
    (hn : t.nm.size ≤ maxLen) (hG : GN N t) (hz : sizeT t ≤ 20) (kb : Below wr.heap.size wr w') :
    Calls Tryz.prog 108 #[.agg #[.string t.nm, tv], pv] w' (fun e w'' => ∃ (u : Tm) (q9 : Option Addr) (d9 : Nat) (f : Bool) (lo : Nat), e = .returned (.tuple #[.agg #[.string u.nm, .slice q9 u.args.length d9], .bool f]) ∧ lo = w'.heap.size ∧ SlIn (fun b => κ b ∨ (lo ≤ b ∧ b < w''.heap.size)) w'' u.args (.slice q9 u.args.length d9) ∧ u.nm.size ≤ maxLen ∧ (f = true → Gm N u) ∧ Below w'.heap.size w' w'') := by
  have hk : ∀ b, κ b → b < wr.heap.size := fun b hb => Nat.lt_of_lt_of_le (hκ b hb) h5
  have hsz := kb.size
  refine (instance_any N ((N + 3) * 20 ^ 4) (20 ^ 4) ps hps (by omega) hpl t κ wr.heap.size w' tv pv hk hsz (ht.frame fun b o hb => kb.cell (p := ⟨b, o, none⟩) (hk b hb)) (hp.keep fun b o hb => kb.cell (p := ⟨b, o, none⟩) (hk b hb)) hn hG).mono ?_
  rintro e w'' ⟨u, q, d, f, he, h1, h2, h3, h4⟩
  exact ⟨u, q, d, f, _, he, rfl, h1, h2, fun hf => gm_inst hN hG hz (h3 hf), h4⟩
theorem kap3 {ok3 : Nat → Prop} {B3 s t : Nat} {v : Value} (h1 : ∀ b, ok3 b → b < B3) (hB : B3 ≤ s) (hst : s ≤ t) (hv : ∀ k, v.ownBlock = some k → B3 ≤ k ∧ k < s) : ∀ b, (ok3 b ∨ (s ≤ b ∧ b < t)) → b < t ∧ (ok3 b ∨ B3 ≤ b) ∧ v.ownBlock ≠ some b := fun b hb => by
  rcases hb with hb | hb
  · have := h1 b hb
    exact ⟨by omega, Or.inl hb, fun e => by have := hv b e; omega⟩
  · exact ⟨hb.2, Or.inr (by omega), fun e => by have := hv b e; omega⟩
theorem okq2 {κ : Nat → Prop} {lo hi c : Nat} (h : ∀ b, κ b → b < c) (h2 : hi ≤ c) : ∀ b, (κ b ∨ (lo ≤ b ∧ b < hi)) → b < c := fun b hb => hb.elim (h b) fun h => Nat.lt_of_lt_of_le h.2 h2
theorem okn2 {κ : Nat → Prop} {a lo hi g : Nat} (h : ∀ b, κ b → b < a) (h1 : a ≤ g) (h2 : g < lo ∨ hi ≤ g) : ∀ b, (κ b ∨ (lo ≤ b ∧ b < hi)) → b ≠ g := fun b hb e => by
  rcases hb with hb | hb
  · have := h b hb; omega
  · omega
/-- What is taken into the row of new atoms lies apart from it. -/
theorem okm {κ ok3 : Nat → Prop} {B3 a r c : Nat} {v : Value} {mo : Option Nat} (h1 : ∀ b, κ b → b < a ∧ (ok3 b ∨ B3 ≤ b) ∧ mo ≠ some b) (hB : B3 ≤ r) (ha : a ≤ r) (hrc : r ≤ c) (hv : ∀ k, v.ownBlock = some k → k < r) (hw : ∀ k, v.ownBlock = some k → mo = some k ∨ a ≤ k) :
    ∀ b, (κ b ∨ (r ≤ b ∧ b < c)) → (ok3 b ∨ B3 ≤ b) ∧ b < c ∧ v.ownBlock ≠ some b := fun b hb => by
  rcases hb with hb | hb
  · obtain ⟨a1, a2, a3⟩ := h1 b hb
    refine ⟨a2, by omega, fun e => ?_⟩
    rcases hw b e with h | h
    · exact a3 h
    · omega
  · exact ⟨Or.inr (by omega), hb.2, fun e => by have := hv b e; omega⟩
theorem Lt.trans2 {ex ex' : Nat → Prop} {a b c : World} (h : Lt ex a b) (k : Lt ex' b c) (hx : ∀ i, ex' i → ex i ∨ a.heap.size ≤ i) : Lt ex a c := ⟨k.os.trans h.os, k.tape.trans h.tape, k.output.trans h.output, Nat.le_trans h.size k.size, fun i hi hn => (k.block i (Nat.lt_of_lt_of_le hi h.size) (fun e => by rcases hx i e with h | h; exact hn h; omega)).trans (h.block i hi hn)⟩
theorem own_row {ok0 : Nat → Prop} {base : Nat} {w : World} {L : List (Tm × Value)} {p : Option Addr} {n c : Nat} (h : OwnA ok0 base w L (.slice p n c)) (k : Nat) (hk : k < L.length) : ∃ (x : Tm × Value) (g : Nat) (q : Option Addr) (d : Nat) (ok : Nat → Prop), L[k]? = some x ∧ p = some ⟨g, 0, none⟩ ∧ (base ≤ g ∧ g < w.heap.size) ∧ w.cell? ⟨g, k * 2, none⟩ = some (.string x.1.nm) ∧
    w.cell? ⟨g, k * 2 + 1, none⟩ = some (.slice q x.1.args.length d) ∧ (∀ b, ok b → (ok0 b ∨ base ≤ b) ∧ b < w.heap.size) ∧ SlIn ok w x.1.args (.slice q x.1.args.length d) ∧ x.1.nm.size ≤ maxLen := by
  obtain ⟨h1, ok, h2, h3⟩ := h
  have hl := h1.lt
  rcases h1.2 with ⟨_, hz⟩ | ⟨g, cap, cur, e, _⟩
  · omega
  · cases e
    obtain ⟨x, hx⟩ : ∃ x, L[k]? = some x := ⟨L[k], by simp [hk]⟩
    obtain ⟨f1, f2⟩ := flatL_get L k x hx
    have hxs := h3 x (List.mem_of_getElem? hx)
    obtain ⟨q, d, eq⟩ := hxs.1.form
    refine ⟨x, g, q, d, ok, hx, rfl, hl g rfl, (h1.cellAt _ (by omega)).trans f1, ?_, fun b hb => ⟨(h2 b hb).1, (h2 b hb).2.1⟩, by rw [← eq]; exact hxs.1, hxs.2⟩
    rw [h1.cellAt _ (by omega), f2, eq]
theorem hok_old {N K Z A : Nat} {w : World} {L : List (Tm × Value)} {M : List ByteArray} {av : Value} (S : St N K Z A w L M av) : ∀ b, b < A → (b < A ∨ A + 4 ≤ b) ∧ b < w.heap.size ∧ av.ownBlock ≠ some b := fun b hb => by
  have hA := S.cell.lt
  exact ⟨Or.inl hb, by omega, fun e => by have := S.own.1.lt _ e; omega⟩
theorem own_cap {ok0 : Nat → Prop} {base : Nat} {w : World} {L : List (Tm × Value)} {va : Option Addr} {n vc : Nat} (h : OwnA ok0 base w L (.slice va n vc)) (hn : n = L.length) : n ≤ vc ∧ vc ≤ maxLen := by
  rcases h.1.2 with ⟨e, hz⟩ | ⟨g, cap, cur, e, e2, e3, e4, e5, _⟩
  · cases e
    exact ⟨Nat.le_refl _, Nat.zero_le _⟩
  · cases e
    exact ⟨by omega, e5⟩
set_option maxRecDepth 100000 in
set_option maxHeartbeats 12800000 in
theorem light_any (N : Nat) (h4 : 4 ≤ N) (hN : (N + 3) * 4000000 ≤ 4611686018427387904) (l : List Rl) (given : List Tm) (w0 : World) (lv gv : Value) (hl : RIn (· < w0.heap.size) w0 l lv) (hg : SlIn (· < w0.heap.size) w0 given gv) (hll : l.length ≤ 1000) (hgl : given.length ≤ 1000000)
    (hr : ∀ r ∈ l, GN N r.1 ∧ sizeT r.1 ≤ 20 ∧ r.2.length ≤ 8 ∧ ∀ x ∈ r.2, sizeT x.2 ≤ 20) (hgv : ∀ t ∈ given, Gm N t) :
    Calls Tryz.prog 78 #[lv, gv] w0 (fun e w' => (∃ b, e = .returned (.bool b)) ∧ Below w0.heap.size w0 w') := by
  obtain ⟨i0, hi, hz0, hz1, hz2⟩ := info_parts Tryz.info28
  obtain ⟨lp, lc, rfl⟩ := hl.form
  obtain ⟨gp, gc, rfl⟩ := hg.form
  obtain ⟨A, hA⟩ : ∃ A, A = w0.heap.size := ⟨_, rfl⟩
  have HA := Lib.hid hA
  have RL := Lib.hid (fun w' (k : Below A w0 w') => hl.keep (w' := w') fun b o hb => k.cell (p := ⟨b, o, none⟩) (by rw [hA]; exact hb))
  have GV := Lib.hid (fun w' (k : Below A w0 w') => hg.frame (w' := w') fun b o hb => k.cell (p := ⟨b, o, none⟩) (by rw [hA]; exact hb))
  have HR := Lib.hid hr
  have HG := Lib.hid hgv
  have H4 := Lib.hid h4
  have HN := Lib.hid hN
  generalize hnl : l.length = nl at *
  have HNL := Lib.hid hnl
  generalize hng : given.length = ng at *
  have HNG := Lib.hid hng
  clear hl hg hr hgv h4 hN hnl hng
  have hmm := @run_makeMap Tryz.prog
  go_enter Tryz.func78, Tryz.ntmps78
  go_upto_region 5 with fail
  obtain ⟨W4, hW4⟩ : ∃ W4, W4 = (((w0.alloc (.cells #[.int .i64 1000000] 109)).alloc (.map #[] 0)).alloc (.cells #[.map (some (w0.heap.size + 1))] 92)).alloc (.cells #[.slice none 0 0] 25) := ⟨_, rfl⟩
  have O4 : Hid (OS N A 0 w0 W4) := Lib.hid (by
    rw [hW4, hA]
    refine ⟨[], [], .slice none 0 0, 1000000, ⟨(Has.new2 _ _ _ _ _).alloc _, Has.new3 _ _ _ _ _ _, OwnA.nil _ _ _, ?_, (fun x hx => by cases hx), (fun x hx => by cases hx)⟩, (((Has.new _ _ _).alloc _).alloc _).alloc _, by omega, Int.le_refl _, Nat.le_refl _, next0 (next0 (next0 (below_alloc _ _) (below_alloc _ _)) (below_alloc _ _)) (below_alloc _ _)⟩
    have := World.ownsMap_made (H := Unit) (w0.alloc (.cells #[.int .i64 1000000] 109)) Tryz.prog 9 (plainElem (H := Unit) Tryz.prog 4)
    rw [World.size_alloc] at this
    exact (this.alloc _).alloc _)
  rw [← hW4]
  clear hW4 hmm
  simp only [← hA]
  clear hA
  go_wp2_with fail
  go_loopw [27] (fun i wr => ∃ k : Nat, k ≤ ng ∧ i = .int .i64 k ∧ Hid (OS N A k w0 wr)) (fun i _ => ng - (intOf i).toNat)
  case atStart => exact ⟨0, Nat.zero_le _, rfl, O4⟩
  case round =>
    obtain ⟨k, hk, rfl, hOS⟩ := hrel
    by_cases hlt : k < ng
    · obtain ⟨L, M, av, lf, S, H, h0, h1, hb, D⟩ := hOS.out
      obtain ⟨t, b, o, q, d, ht, rfl, hbl, c1, c2, hs, hn⟩ := slin_at (GV.out wr D) k (by rw [HNG.out]; exact hlt)
      have G := HG.out t (List.mem_of_getElem? ht)
      have CA := Lib.hid (add_any N A wr L M av S (by omega) t (.slice q t.args.length d) (· < A) (hok_old S) (hs.weaken fun b hb => by rw [HA.out]; exact hb) hn G.1 G.2.1 G.2.2)
      have SS := Lib.hid (And.intro S (And.intro H (And.intro h0 (And.intro h1 (And.intro hb D)))))
      clear S H h0 h1 hb D ht hs hn G hOS
      generalize t.nm = tn at *
      generalize t.args.length = ta at *
      go_wp2_with fail
      refine CA.out.mono ?_
      intro e w5 h5
      have OO := Lib.hid (os_add SS.out.1 SS.out.2.1 SS.out.2.2.1 SS.out.2.2.2.1 SS.out.2.2.2.2.1 SS.out.2.2.2.2.2 h5)
      obtain ⟨rfl, _⟩ := h5
      go_wp2_with fail
      go_roundw
      case rel => exact ⟨k + 1, by omega, by go_num, OO⟩
      case measure => simp [intOf]; omega
    · obtain rfl : k = ng := by omega
      go_wp2_with fail
      go_loopw [10] (fun n wr => ∃ m : Int, n = .int .i64 m ∧ -1 ≤ m ∧ m ≤ 1000 ∧ Hid (OS N A 10000000 w0 wr)) (fun n _ => (1002 - intOf n).toNat)
      case atStart =>
        obtain ⟨L, M, av, lf, S, H, h0, h1, hb, D⟩ := hOS.out
        exact ⟨-1, rfl, by omega, by omega, Lib.hid ⟨L, M, av, lf, S, H, h0, h1, by omega, D⟩⟩
      case round =>
        clear hOS O4 HG GV HNG hgl
        obtain ⟨m, rfl, hm0, hm1, hOS⟩ := hrel
        obtain ⟨wa, hwa⟩ : ∃ z, z = wr := ⟨_, rfl⟩
        subst hwa
        obtain ⟨L, M, av, lf, S, H, h0, h1, hb, D⟩ := hOS.out
        obtain ⟨va, vc, rfl⟩ := S.own.form
        have c1 := S.cell.cell 0
        have c2 := S.cell.free 0
        have c3 := S.cell.lt
        have hcap := own_cap S.own rfl
        have SS := Lib.hid S
        have HH := Lib.hid H
        have DD := Lib.hid D
        clear S H D hOS
        by_cases hc2 : L.length ≤ 1000
        · have hi2 : ((L.length : Nat) : Int) ≤ 1000 := by omega
          by_cases hc : m < (L.length : Int)
          · have hci : ((L.length : Nat) : Int) ≤ (vc : Int) := by omega
            obtain ⟨ok3, hok3⟩ : ∃ f : Nat → Prop, f = okz A wa.heap.size (.slice va L.length vc) := ⟨_, rfl⟩
            obtain ⟨B3, hB3⟩ : ∃ B, B = wa.heap.size := ⟨_, rfl⟩
            have hA3 : A + 4 ≤ B3 := by rw [hB3]; exact c3
            have HK1 : Hid (∀ b, ok3 b → (b < A ∨ A + 4 ≤ b) ∧ b < B3 ∧ (Value.slice va L.length vc).ownBlock ≠ some b) := Lib.hid (by rw [hok3, hB3]; exact fun b h => h)
            have HK2 : Hid (∀ b, b < A → ok3 b) := Lib.hid (by rw [hok3]; exact fun b hb => hok_old SS.out b hb)
            have AT3 : Hid (∀ w', Ch A wa w' → AtR ok3 A w' (L.map (·.1)) (.slice va L.length vc)) := Lib.hid (fun w' g => by
              rw [hok3]
              exact (own_at SS.out.own).ch g fun b hb => ⟨hb.2.1, by rcases hb.1 with h | h <;> omega⟩)
            have S3 := Lib.hid (fun w' (g : Ch A wa w') => St.ch SS.out g)
            have DW : Hid (∀ w', Ch A wa w' → Below A w0 w') := Lib.hid (fun w' g => DD.out.trans (g.toBelow (Nat.le_refl _) (by omega)))
            have RL3 := Lib.hid (fun w' (g : Ch A wa w') => RL.out w' (DW.out w' g))
            have GA3 : Hid (∀ t ∈ L.map (·.1), GT N ((N + 3) * 20 ^ 4) (20 ^ 4) t) := Lib.hid (fun t ht => by
              obtain ⟨x, hx, rfl⟩ := List.mem_map.1 ht
              exact SS.out.good x hx)
            have LL3 : Hid ((L.map (·.1)).length ≤ 1000) := Lib.hid (by rw [List.length_map]; exact hc2)
            have hsz3 : B3 ≤ wa.heap.size := by omega
            have C3 : Hid (Ch A wa wa) := Lib.hid (Ch.refl _ _)
            clear hok3
            go_wp2_with fail
            go_loopw [12, 53] (fun mv i ws => ∃ (k : Nat) (Lm : List (Tm × Value)) (lf : Int), k ≤ nl ∧ i = .int .i64 k ∧ 0 ≤ lf ∧ lf ≤ 1000000 ∧ Lm.length ≤ k * 5001 ∧ Hid (OwnA ok3 B3 ws Lm mv) ∧ Hid (∀ y ∈ Lm, Gm N y.1) ∧ Hid (Has ws A #[.int .i64 lf]) ∧ Hid (Ch A wa ws)) (fun _ i _ => nl - (intOf i).toNat)
            case atStart => exact ⟨0, [], lf, Nat.zero_le _, rfl, h0, h1, Nat.zero_le _, Lib.hid (OwnA.nil _ _ _), Lib.hid (fun y hy => by cases hy), HH, C3⟩
            case round =>
              clear h0 h1 HH lf c1 c2 c3
              obtain ⟨k, Lm, lf, hk, rfl, h0, h1, hLl, hO, hM, hH, hC⟩ := hrel
              by_cases hlt : k < nl
              · obtain ⟨x, g, o, q, d, q2, d2, hx, rfl, hg, e1, e2, e3, hxs, hxn, hxl⟩ := rin_row (RL3.out wr hC.out) k (by rw [HNL.out]; exact hlt)
                have RX := Lib.hid (HR.out x (List.mem_of_getElem? hx))
                have hszr : B3 ≤ wr.heap.size := by have := hC.out.size; omega
                have hAr : A + 4 ≤ wr.heap.size := by omega
                have CW := Lib.hid (ways_any ok3 N ((N + 3) * 20 ^ 4) (20 ^ 4) x.2 (L.map (·.1)) RX.out.2.2.1 RX.out.2.2.2 LL3.out GA3.out wr A lf (.slice q2 x.2.length d2) (.slice va L.length vc) hH.out h0 h1 (fun b hb => by have := HK1.out b hb; exact ⟨by omega, by omega⟩) (hxl.wide fun b hb => by have := HA.out; omega) (AT3.out wr hC.out))
                obtain ⟨ma, mc, rfl⟩ := hO.out.form
                have XS := Lib.hid (And.intro hxs hxn)
                have hgA : g < A := by rw [HA.out]; exact hg
                clear hx hxs hxn hxl hg
                unfold WQ at CW
                generalize hx2 : x.2.length = x2l at *
                clear hx2
                go_wp2_with fail
                refine CW.out.mono ?_
                rintro e w5 ⟨v5, f, rfl, hq, hc5⟩
                have HQ := Lib.hid hq
                have C5 := Lib.hid hc5
                have C05 := Lib.hid (Ch.trans hC.out hc5)
                clear hq hc5 CW
                cases f
                · go_wp2_with fail
                  refine bodyPost_ret (by simp [results, Tryz.results78, go_sem]; rfl) rfl ?_
                  exact ⟨by simp, by rw [← HA.out]; exact DW.out _ C05.out⟩
                · obtain ⟨qs, lf5, hQ, hql, hqs, g0, g1, hH5⟩ := HQ.out rfl
                  obtain ⟨pq, cq, rfl⟩ := hQ.form
                  have hszw : wr.heap.size ≤ w5.heap.size := C5.out.size
                  obtain ⟨κ, hκ⟩ : ∃ κ : Nat → Prop, κ = fun b => ok3 b ∨ (wr.heap.size ≤ b ∧ b < w5.heap.size) := ⟨_, rfl⟩
                  obtain ⟨mo, hmo⟩ : ∃ m, m = (Value.slice ma Lm.length mc).ownBlock := ⟨_, rfl⟩
                  have hml := hO.out.1.lt
                  have KK : Hid (∀ b, κ b → b < w5.heap.size ∧ (ok3 b ∨ B3 ≤ b) ∧ mo ≠ some b) := Lib.hid (by rw [hκ, hmo]; exact kap3 (fun b hb => (HK1.out b hb).2.1) hszr hszw hml)
                  have KL : Hid (∀ b, κ b → b < w5.heap.size) := Lib.hid (fun b hb => (KK.out b hb).1)
                  have KA : Hid (∀ b, b < A → κ b) := Lib.hid (by rw [hκ]; exact fun b hb => Or.inl (HK2.out b hb))
                  have M1 : Hid (∀ i, mo = some i → B3 ≤ i ∧ i < w5.heap.size) := Lib.hid (fun i e => by have := hml i (by rw [← hmo]; exact e); omega)
                  have QK : Hid (∀ w', Lt (fun b => mo = some b) w5 w' → WIn κ w' qs (.slice pq qs.length cq)) := Lib.hid (fun w' g => by
                    have hQ' : WIn κ w5 qs (.slice pq qs.length cq) := by rw [hκ]; exact hQ
                    exact hQ'.keep fun b o hb => g.cell (KK.out b hb).1 (KK.out b hb).2.2)
                  have E1 := (C5.out.cell (o := o + k * 3) (show g < wr.heap.size by omega) (by omega)).trans e1
                  have E2 := (C5.out.cell (o := o + k * 3 + 1) (show g < wr.heap.size by omega) (by omega)).trans e2
                  have XK : Hid (∀ w', Lt (fun b => mo = some b) w5 w' → SlIn κ w' x.1.args (.slice q x.1.args.length d)) := Lib.hid (fun w' gl => by
                    have a1 : SlIn κ w5 x.1.args (.slice q x.1.args.length d) := (XS.out.1.frame (w' := w5) fun b o hb => C5.out.cell (by have := HA.out; omega) (by have := HA.out; omega)).weaken fun b hb => KA.out b (by rw [HA.out]; exact hb)
                    exact a1.frame fun b o hb => gl.cell (KK.out b hb).1 (KK.out b hb).2.2)
                  have O5 : Hid (OwnA ok3 B3 w5 Lm (.slice ma Lm.length mc)) := Lib.hid (own_lt hO.out (Lt.ofCh C5.out) (fun i e => by subst e; exact ⟨by omega, fun h => by have := (HK1.out _ h).1; omega⟩))
                  have H5 := Lib.hid hH5
                  have GQ := Lib.hid hqs
                  have hmw : ∀ i, (Value.slice ma Lm.length mc).ownBlock = some i → mo = some i ∨ w5.heap.size ≤ i := fun i e => Or.inl (by rw [hmo]; exact e)
                  have MW := Lib.hid hmw
                  have L5 : Hid (Lt (fun b => mo = some b) w5 w5) := Lib.hid (Lt.of (Below.refl _ _))
                  generalize hnq : qs.length = nq at *
                  have HNQ := Lib.hid hnq
                  clear hκ hmo hml hQ hqs hH5 hmw HQ hnq e1 e2 e3 hO hH h0 h1
                  go_wp2_with fail
                  go_loopw [12, 71] (fun mv i wt => ∃ (j : Nat) (Lm' : List (Tm × Value)), j ≤ nq ∧ i = .int .i64 j ∧ Lm'.length ≤ k * 5001 + j ∧ Hid (OwnA ok3 B3 wt Lm' mv) ∧ Hid (∀ y ∈ Lm', Gm N y.1) ∧ Hid (Lt (fun b => mo = some b) w5 wt) ∧ Hid (∀ g, mv.ownBlock = some g → mo = some g ∨ w5.heap.size ≤ g)) (fun _ i _ => nq - (intOf i).toNat)
                  case atStart => exact ⟨0, Lm, Nat.zero_le _, rfl, hLl, O5, hM, L5, MW⟩
                  case round =>
                    clear MW O5 L5 hM
                    obtain ⟨j, Lm', hj, rfl, hLl', hO', hM', hT, hw⟩ := hrel
                    by_cases hjlt : j < nq
                    · obtain ⟨s, g2, o2, q3, d3, hs, rfl, hg2, v1, hps⟩ := win_row (QK.out wr hT.out) j (by rw [HNQ.out]; exact hjlt)
                      have hw5 : w5.heap.size ≤ wr.heap.size := hT.out.size
                      have hg2r : g2 < wr.heap.size := by have := KL.out g2 hg2; omega
                      have u1 := (hT.out.cell (g := g) (o := o + k * 3) (by omega) (fun e => by have := M1.out _ e; omega)).trans E1
                      have u2 := (hT.out.cell (g := g) (o := o + k * 3 + 1) (by omega) (fun e => by have := M1.out _ e; omega)).trans E2
                      have GS := GQ.out s (List.mem_of_getElem? hs)
                      have CI := Lib.hid (fun w' (kb : Below wr.heap.size wr w') => ci_i HN.out KL.out hw5 GS.1 (by have := GS.2; omega) (XK.out wr hT.out) hps XS.out.2 RX.out.1 RX.out.2.1 kb)
                      clear hs hg2 hps GS
                      generalize x.1.nm = xn at *
                      generalize x.1.args.length = xa at *
                      generalize s.length = sl at *
                      go_upto_region 24 with fail
                      go_cut [17, 18] (fun v17 v18 wx => ∃ (g9 : Nat) (u : Tm) (q9 : Option Addr) (d9 : Nat) (f : Bool), v17 = .pointer (some ⟨g9, 0, none⟩) ∧ v18 = .bool f ∧ Hid (Has wx g9 #[.string u.nm, .slice q9 u.args.length d9]) ∧ Hid (SlIn (fun b => κ b ∨ (wr.heap.size ≤ b ∧ b < wx.heap.size)) wx u.args (.slice q9 u.args.length d9)) ∧ u.nm.size ≤ maxLen ∧ Hid (f = true → Gm N u) ∧ Hid (Below wr.heap.size wr wx))
                      case first =>
                        have Hb : Hid (∀ w', Below wr.heap.size wr w' → w'.cell? ⟨g, o + k * 3, none⟩ = some (.string xn) ∧ w'.cell? ⟨g, o + k * 3 + 1, none⟩ = some (.slice q xa d) ∧ w'.cell? ⟨g2, o2 + j, none⟩ = some (.slice q3 sl d3) ∧ Hid (Below wr.heap.size wr w')) := Lib.hid (fun w' kb => ⟨(kb.cell (p := ⟨g, _, none⟩) (show g < wr.heap.size by omega)).trans u1, (kb.cell (p := ⟨g, _, none⟩) (show g < wr.heap.size by omega)).trans u2, (kb.cell (p := ⟨g2, _, none⟩) hg2r).trans v1, Lib.hid kb⟩)
                        have K0 : Hid (Below wr.heap.size wr wr.drew) := Lib.hid (Below.refl _ _).drew
                        clear u1 u2 v1
                        refine wp_region_held_drew (S := (fun w' => w'.cell? ⟨g, o + k * 3, none⟩ = some (.string xn) ∧ w'.cell? ⟨g, o + k * 3 + 1, none⟩ = some (.slice q xa d) ∧ w'.cell? ⟨g2, o2 + j, none⟩ = some (.slice q3 sl d3) ∧ Hid (Below wr.heap.size wr w'))) (by kernel_rfl) (Hb.out _ K0.out) (fun hHeld => ?_)
                        generalize hw0 : wr.drew = wz at hHeld K0 ⊢
                        clear hw0
                        have hz0 : wr.heap.size ≤ wz.heap.size := K0.out.size
                        refine wpAnyH_take (i := 0) (v := ?_) rfl (by kernel_rfl) (by kernel_rfl) (by kernel_rfl) (fun _ _ _ h => h) (Or.inl ⟨by rfl, ?_⟩) (by assumption) ?_
                        rotate_left
                        · intro w' hSw; (try dsimp only at hSw); (try simp only [List.getElem_toArray, List.getElem_cons_zero]); go_simp; try with_reducible rfl
                        (try simp only [List.getElem_toArray, List.getElem_cons_zero, Act.put, List.setIfInBounds_toArray, List.set_cons_zero, List.set_cons_succ])
                        refine wpAnyH_take (i := 1) (v := ?_) rfl (by kernel_rfl) (by kernel_rfl) (by kernel_rfl) (fun _ _ _ h => h) (Or.inl ⟨by rfl, ?_⟩) (by assumption) ?_
                        rotate_left
                        · intro w' hSw; (try dsimp only at hSw); (try simp only [List.getElem_toArray, List.getElem_cons_zero, List.getElem_cons_succ]); go_simp; try with_reducible rfl
                        (try simp only [List.getElem_toArray, List.getElem_cons_zero, List.getElem_cons_succ, Act.put, List.setIfInBounds_toArray, List.set_cons_zero, List.set_cons_succ])
                        refine wpAnyH_take (i := 2) (v := ?_) rfl (by kernel_rfl) (by kernel_rfl) (by kernel_rfl) (fun _ _ _ h => h) (Or.inl ⟨by rfl, ?_⟩) (by assumption) ?_
                        rotate_left
                        · intro w' hSw; (try dsimp only at hSw); (try simp only [List.getElem_toArray, List.getElem_cons_zero, List.getElem_cons_succ]); go_simp; try with_reducible rfl
                        (try simp only [List.getElem_toArray, List.getElem_cons_zero, List.getElem_cons_succ, Act.put, List.setIfInBounds_toArray, List.set_cons_zero, List.set_cons_succ])
                        refine wpAnyH_take (i := 3) (v := ?_) rfl (by kernel_rfl) (by kernel_rfl) (by kernel_rfl) (fun _ _ _ h => h) (Or.inl ⟨by rfl, ?_⟩) (by assumption) ?_
                        rotate_left
                        · intro w' hSw; (try dsimp only at hSw); (try simp only [List.getElem_toArray, List.getElem_cons_zero, List.getElem_cons_succ]); go_simp; try with_reducible rfl
                        (try simp only [List.getElem_toArray, List.getElem_cons_zero, List.getElem_cons_succ, Act.put, List.setIfInBounds_toArray, List.set_cons_zero, List.set_cons_succ])
                        refine wpAnyH_take (i := 4) (v := ?_) rfl (by kernel_rfl) (by kernel_rfl) (by kernel_rfl) (fun _ _ _ h => h) (Or.inl ⟨by rfl, ?_⟩) (by assumption) ?_
                        rotate_left
                        · intro w' hSw; (try dsimp only at hSw); (try simp only [List.getElem_toArray, List.getElem_cons_zero, List.getElem_cons_succ]); go_simp; try with_reducible rfl
                        (try simp only [List.getElem_toArray, List.getElem_cons_zero, List.getElem_cons_succ, Act.put, List.setIfInBounds_toArray, List.set_cons_zero, List.set_cons_succ])
                        refine wpAnyH_take (i := 5) (v := ?_) rfl (by kernel_rfl) (by kernel_rfl) (by kernel_rfl) (fun _ _ _ h => h) (Or.inl ⟨by rfl, ?_⟩) (by assumption) ?_
                        rotate_left
                        · intro w' hSw; (try dsimp only at hSw); (try simp only [List.getElem_toArray, List.getElem_cons_zero, List.getElem_cons_succ]); go_simp; try with_reducible rfl
                        (try simp only [List.getElem_toArray, List.getElem_cons_zero, List.getElem_cons_succ, Act.put, List.setIfInBounds_toArray, List.set_cons_zero, List.set_cons_succ])
                        refine wpAnyH_take (i := 6) (v := ?_) rfl (by kernel_rfl) (by kernel_rfl) (by kernel_rfl) (fun _ _ _ h => h) (Or.inl ⟨by rfl, ?_⟩) (by assumption) ?_
                        rotate_left
                        · intro w' hSw; (try dsimp only at hSw); (try simp only [List.getElem_toArray, List.getElem_cons_zero, List.getElem_cons_succ]); go_simp; try with_reducible rfl
                        (try simp only [List.getElem_toArray, List.getElem_cons_zero, List.getElem_cons_succ, Act.put, List.setIfInBounds_toArray, List.set_cons_zero, List.set_cons_succ])
                        refine wpAnyH_take (i := 7) (v := ?_) rfl (by kernel_rfl) (by kernel_rfl) (by kernel_rfl) (fun _ _ _ h => h) (Or.inl ⟨by rfl, ?_⟩) (by assumption) ?_
                        rotate_left
                        · intro w' hSw; (try dsimp only at hSw); (try simp only [List.getElem_toArray, List.getElem_cons_zero, List.getElem_cons_succ]); go_simp; try with_reducible rfl
                        (try simp only [List.getElem_toArray, List.getElem_cons_zero, List.getElem_cons_succ, Act.put, List.setIfInBounds_toArray, List.set_cons_zero, List.set_cons_succ])
                        refine wpAnyH_take (i := 8) (v := ?_) rfl (by kernel_rfl) (by kernel_rfl) (by kernel_rfl) (fun _ _ _ h => h) (Or.inl ⟨by rfl, ?_⟩) (by assumption) ?_
                        rotate_left
                        · intro w' hSw; (try dsimp only at hSw); (try simp only [List.getElem_toArray, List.getElem_cons_zero, List.getElem_cons_succ]); go_simp; try with_reducible rfl
                        (try simp only [List.getElem_toArray, List.getElem_cons_zero, List.getElem_cons_succ, Act.put, List.setIfInBounds_toArray, List.set_cons_zero, List.set_cons_succ])
                        refine wpAnyH_ready (rs := [9, 13]) (by kernel_rfl) (by simp) ?_
                        refine (AllReadyH.cons rfl (fun K hK => ?_) (AllReadyH.cons rfl (fun K hK => ?_) AllReadyH.nil))
                        · skip
                          go_simp
                          (try go_split_ands)
                          go_at_call 108
                          (with_reducible refine (CI.out _ K0.out).mono ?_)
                          rintro e w7 ⟨u, q9, d9, f, lo, rfl, hlo, s7, n7, f7, k7⟩
                          have K7 := Lib.hid (next0 K0.out k7)
                          have z7 : wz.heap.size ≤ w7.heap.size := k7.size
                          have F7 := Lib.hid f7
                          have N7 := Lib.hid n7
                          have J7 := Lib.hid k7
                          obtain ⟨hi, hhi⟩ : ∃ m, m = w7.heap.size := ⟨_, rfl⟩
                          rw [← hhi] at s7
                          have S7 := Lib.hid s7
                          clear s7 n7 f7 k7
                          refine hK.out _ _ (Hb.out _ K7.out) (fun hHeld => ?_)
                          clear hK K
                          (try simp only [List.getElem_toArray, List.getElem_cons_zero, List.getElem_cons_succ, Act.put, List.setIfInBounds_toArray, List.set_cons_zero, List.set_cons_succ])
                          refine wpAnyH_take (i := 10) (v := ?_) rfl (by kernel_rfl) (by kernel_rfl) (by kernel_rfl) (fun _ _ _ h => h) (Or.inl ⟨by rfl, ?_⟩) (by assumption) ?_
                          rotate_left
                          · intro w' hSw; (try dsimp only at hSw); (try simp only [List.getElem_toArray, List.getElem_cons_zero, List.getElem_cons_succ]); go_simp; try with_reducible rfl
                          (try simp only [List.getElem_toArray, List.getElem_cons_zero, List.getElem_cons_succ, Act.put, List.setIfInBounds_toArray, List.set_cons_zero, List.set_cons_succ])
                          refine wpAnyH_take (i := 11) (v := ?_) rfl (by kernel_rfl) (by kernel_rfl) (by kernel_rfl) (fun _ _ _ h => h) (Or.inl ⟨by rfl, ?_⟩) (by assumption) ?_
                          rotate_left
                          · intro w' hSw; (try dsimp only at hSw); (try simp only [List.getElem_toArray, List.getElem_cons_zero, List.getElem_cons_succ]); go_simp; try with_reducible rfl
                          (try simp only [List.getElem_toArray, List.getElem_cons_zero, List.getElem_cons_succ, Act.put, List.setIfInBounds_toArray, List.set_cons_zero, List.set_cons_succ])
                          refine wpAnyH_take (i := 12) (v := ?_) rfl (by kernel_rfl) (by kernel_rfl) (by kernel_rfl) (fun _ _ _ h => h) (Or.inl ⟨by rfl, ?_⟩) (by assumption) ?_
                          rotate_left
                          · intro w' hSw; (try dsimp only at hSw); (try simp only [List.getElem_toArray, List.getElem_cons_zero, List.getElem_cons_succ]); go_simp; try with_reducible rfl
                          (try simp only [List.getElem_toArray, List.getElem_cons_zero, List.getElem_cons_succ, Act.put, List.setIfInBounds_toArray, List.set_cons_zero, List.set_cons_succ])
                          refine wpAnyH_ready (rs := [13]) (by kernel_rfl) (by simp) ?_
                          refine AllReadyH.cons rfl (fun K hK => ?_) AllReadyH.nil
                          go_simp
                          (try go_split_ands)
                          obtain ⟨w8, hw8⟩ : ∃ z, z = w7.alloc (.cells #[.string ⟨#[]⟩, .slice none 0 0] 27) := ⟨_, rfl⟩
                          rw [← hw8]
                          have J8 : Hid (Below w7.heap.size w7 w8) := Lib.hid (by rw [hw8]; exact below_alloc _ _)
                          have H8 : Hid (Has w8 w7.heap.size #[.string ⟨#[]⟩, .slice none 0 0]) := Lib.hid (by rw [hw8]; exact Has.new _ _ _)
                          have K8 := Lib.hid (next0 K7.out J8.out)
                          have z8 : w7.heap.size + 1 ≤ w8.heap.size := by rw [hw8]; simp
                          clear hw8
                          have S8 := Lib.hid (S7.out.frame (w' := w8) fun b o hb => J8.out.cell (p := ⟨b, o, none⟩) (okq2 (fun b hb => Nat.lt_of_lt_of_le (KL.out b hb) (by omega)) (by omega) b hb))
                          refine hK.out _ _ (Hb.out _ K8.out) (fun hHeld => ?_)
                          clear hK K
                          (try simp only [List.getElem_toArray, List.getElem_cons_zero, List.getElem_cons_succ, Act.put, List.setIfInBounds_toArray, List.set_cons_zero, List.set_cons_succ])
                          refine wpAnyH_ready (rs := [14]) (by kernel_rfl) (by simp) ?_
                          refine AllReadyH.cons rfl (fun K hK => ?_) AllReadyH.nil
                          obtain ⟨y1, y2, y3, y4, y5⟩ := H8.out.two
                          go_simp
                          (try go_split_ands)
                          obtain ⟨w9, hw9⟩ : ∃ z, z = (w8.setCell ⟨w7.heap.size, 0, none⟩ (.string u.nm)).setCell ⟨w7.heap.size, 1, none⟩ (.slice q9 u.args.length d9) := ⟨_, rfl⟩
                          rw [← hw9]
                          have hg9 : wr.heap.size ≤ w7.heap.size := by omega
                          have K9 : Hid (Below wr.heap.size wr w9) := Lib.hid (by rw [hw9]; exact (K8.out.setCell hg9 _).setCell hg9 _)
                          have H9 : Hid (Has w9 w7.heap.size #[.string u.nm, .slice q9 u.args.length d9]) := Lib.hid (by rw [hw9]; exact put_agg H8.out _ _)
                          have z9 : w8.heap.size ≤ w9.heap.size := by rw [hw9]; simp [World.setCell]
                          have S9 : Hid (SlIn (fun b => κ b ∨ (lo ≤ b ∧ b < hi)) w9 u.args (.slice q9 u.args.length d9)) := Lib.hid (by rw [hw9]; exact slin_far2 S8.out (okn2 (a := w5.heap.size) KL.out (by omega) (by omega)) _ _)
                          clear hw9 y1 y2 y3 y4 y5
                          refine hK.out _ _ (Hb.out _ K9.out) (fun hHeld => ?_)
                          clear hK K
                          (try simp only [List.getElem_toArray, List.getElem_cons_zero, List.getElem_cons_succ, Act.put, List.setIfInBounds_toArray, List.set_cons_zero, List.set_cons_succ])
                          refine wpAnyH_take (i := 15) (v := ?_) rfl (by kernel_rfl) (by kernel_rfl) (by kernel_rfl) (fun _ _ _ h => h) (Or.inl ⟨by rfl, ?_⟩) (by assumption) ?_
                          rotate_left
                          · intro w' hSw; (try dsimp only at hSw); (try simp only [List.getElem_toArray, List.getElem_cons_zero, List.getElem_cons_succ]); go_simp; try with_reducible rfl
                          (try simp only [List.getElem_toArray, List.getElem_cons_zero, List.getElem_cons_succ, Act.put, List.setIfInBounds_toArray, List.set_cons_zero, List.set_cons_succ])
                          refine wpAnyH_done (by kernel_rfl) ?_ _
                          go_wp2_with fail
                          go_meet
                          exact ⟨w7.heap.size, u, q9, d9, f, rfl, rfl, H9, Lib.hid (S9.out.weaken fun b hb => hb.imp id fun h => ⟨by omega, by omega⟩), N7.out, F7, K9⟩
                        · skip
                          go_simp
                          (try go_split_ands)
                          obtain ⟨w8, hw8⟩ : ∃ z, z = wz.alloc (.cells #[.string ⟨#[]⟩, .slice none 0 0] 27) := ⟨_, rfl⟩
                          rw [← hw8]
                          have J8 : Hid (Below wz.heap.size wz w8) := Lib.hid (by rw [hw8]; exact below_alloc _ _)
                          have H8 : Hid (Has w8 wz.heap.size #[.string ⟨#[]⟩, .slice none 0 0]) := Lib.hid (by rw [hw8]; exact Has.new _ _ _)
                          have K8 := Lib.hid (next0 K0.out J8.out)
                          have z8 : wz.heap.size + 1 ≤ w8.heap.size := by rw [hw8]; simp
                          clear hw8
                          refine hK.out _ _ (Hb.out _ K8.out) (fun hHeld => ?_)
                          clear hK K
                          (try simp only [List.getElem_toArray, List.getElem_cons_zero, List.getElem_cons_succ, Act.put, List.setIfInBounds_toArray, List.set_cons_zero, List.set_cons_succ])
                          refine wpAnyH_ready (rs := [9]) (by kernel_rfl) (by simp) ?_
                          refine AllReadyH.cons rfl (fun K hK => ?_) AllReadyH.nil
                          go_simp
                          (try go_split_ands)
                          go_at_call 108
                          (with_reducible refine (CI.out _ K8.out).mono ?_)
                          rintro e w7 ⟨u, q9, d9, f, lo, rfl, hlo, s7, n7, f7, k7⟩
                          have K7 := Lib.hid (next0 K8.out k7)
                          have z7 : w8.heap.size ≤ w7.heap.size := k7.size
                          have F7 := Lib.hid f7
                          have N7 := Lib.hid n7
                          have J7 := Lib.hid k7
                          obtain ⟨hi, hhi⟩ : ∃ m, m = w7.heap.size := ⟨_, rfl⟩
                          rw [← hhi] at s7
                          have S7 := Lib.hid s7
                          clear s7 n7 f7 k7
                          have HX := Lib.hid (H8.out.step0 J7.out)
                          refine hK.out _ _ (Hb.out _ K7.out) (fun hHeld => ?_)
                          clear hK K
                          (try simp only [List.getElem_toArray, List.getElem_cons_zero, List.getElem_cons_succ, Act.put, List.setIfInBounds_toArray, List.set_cons_zero, List.set_cons_succ])
                          refine wpAnyH_take (i := 10) (v := ?_) rfl (by kernel_rfl) (by kernel_rfl) (by kernel_rfl) (fun _ _ _ h => h) (Or.inl ⟨by rfl, ?_⟩) (by assumption) ?_
                          rotate_left
                          · intro w' hSw; (try dsimp only at hSw); (try simp only [List.getElem_toArray, List.getElem_cons_zero, List.getElem_cons_succ]); go_simp; try with_reducible rfl
                          (try simp only [List.getElem_toArray, List.getElem_cons_zero, List.getElem_cons_succ, Act.put, List.setIfInBounds_toArray, List.set_cons_zero, List.set_cons_succ])
                          refine wpAnyH_take (i := 11) (v := ?_) rfl (by kernel_rfl) (by kernel_rfl) (by kernel_rfl) (fun _ _ _ h => h) (Or.inl ⟨by rfl, ?_⟩) (by assumption) ?_
                          rotate_left
                          · intro w' hSw; (try dsimp only at hSw); (try simp only [List.getElem_toArray, List.getElem_cons_zero, List.getElem_cons_succ]); go_simp; try with_reducible rfl
                          (try simp only [List.getElem_toArray, List.getElem_cons_zero, List.getElem_cons_succ, Act.put, List.setIfInBounds_toArray, List.set_cons_zero, List.set_cons_succ])
                          refine wpAnyH_take (i := 12) (v := ?_) rfl (by kernel_rfl) (by kernel_rfl) (by kernel_rfl) (fun _ _ _ h => h) (Or.inl ⟨by rfl, ?_⟩) (by assumption) ?_
                          rotate_left
                          · intro w' hSw; (try dsimp only at hSw); (try simp only [List.getElem_toArray, List.getElem_cons_zero, List.getElem_cons_succ]); go_simp; try with_reducible rfl
                          (try simp only [List.getElem_toArray, List.getElem_cons_zero, List.getElem_cons_succ, Act.put, List.setIfInBounds_toArray, List.set_cons_zero, List.set_cons_succ])
                          refine wpAnyH_ready (rs := [14]) (by kernel_rfl) (by simp) ?_
                          refine AllReadyH.cons rfl (fun K hK => ?_) AllReadyH.nil
                          obtain ⟨y1, y2, y3, y4, y5⟩ := HX.out.two
                          go_simp
                          (try go_split_ands)
                          obtain ⟨w9, hw9⟩ : ∃ z, z = (w7.setCell ⟨wz.heap.size, 0, none⟩ (.string u.nm)).setCell ⟨wz.heap.size, 1, none⟩ (.slice q9 u.args.length d9) := ⟨_, rfl⟩
                          rw [← hw9]
                          have hg9 : wr.heap.size ≤ wz.heap.size := by omega
                          have K9 : Hid (Below wr.heap.size wr w9) := Lib.hid (by rw [hw9]; exact (K7.out.setCell hg9 _).setCell hg9 _)
                          have H9 : Hid (Has w9 wz.heap.size #[.string u.nm, .slice q9 u.args.length d9]) := Lib.hid (by rw [hw9]; exact put_agg HX.out _ _)
                          have z9 : w7.heap.size ≤ w9.heap.size := by rw [hw9]; simp [World.setCell]
                          have S9 : Hid (SlIn (fun b => κ b ∨ (lo ≤ b ∧ b < hi)) w9 u.args (.slice q9 u.args.length d9)) := Lib.hid (by rw [hw9]; exact slin_far2 S7.out (okn2 (a := w5.heap.size) KL.out (by omega) (by omega)) _ _)
                          clear hw9 y1 y2 y3 y4 y5
                          refine hK.out _ _ (Hb.out _ K9.out) (fun hHeld => ?_)
                          clear hK K
                          (try simp only [List.getElem_toArray, List.getElem_cons_zero, List.getElem_cons_succ, Act.put, List.setIfInBounds_toArray, List.set_cons_zero, List.set_cons_succ])
                          refine wpAnyH_take (i := 15) (v := ?_) rfl (by kernel_rfl) (by kernel_rfl) (by kernel_rfl) (fun _ _ _ h => h) (Or.inl ⟨by rfl, ?_⟩) (by assumption) ?_
                          rotate_left
                          · intro w' hSw; (try dsimp only at hSw); (try simp only [List.getElem_toArray, List.getElem_cons_zero, List.getElem_cons_succ]); go_simp; try with_reducible rfl
                          (try simp only [List.getElem_toArray, List.getElem_cons_zero, List.getElem_cons_succ, Act.put, List.setIfInBounds_toArray, List.set_cons_zero, List.set_cons_succ])
                          refine wpAnyH_done (by kernel_rfl) ?_ _
                          go_wp2_with fail
                          go_meet
                          exact ⟨wz.heap.size, u, q9, d9, f, rfl, rfl, H9, Lib.hid (S9.out.weaken fun b hb => hb.imp id fun h => ⟨by omega, by omega⟩), N7.out, F7, K9⟩
                      case rest =>
                        obtain ⟨g9, u, q9, d9, f, rfl, rfl, H9, S9, n9, F9, K9⟩ := hcut
                        obtain ⟨oa, oc, rfl⟩ := hO'.out.form
                        have O9 := Lib.hid (hO'.out.below K9.out)
                        have T9 := Lib.hid (hT.out.below K9.out)
                        have hlo := hO'.out.1.lt
                        have HW := Lib.hid hw.out
                        clear u1 u2 v1 CI
                        cases f
                        · clear hlo
                          go_wp2_with fail
                          go_roundw
                          case rel => exact ⟨j + 1, Lm', by omega, by go_num, by omega, O9, hM', T9, HW⟩
                          case measure => simp [intOf]; omega
                        · have GU := Lib.hid (F9.out rfl)
                          have A1 : Lm'.length + 1 ≤ maxLen := by unfold maxLen; omega
                          have A2 : (Lm'.length + 1) * 40 ≤ 140737488355328 := by omega
                          have hcw : wr.heap.size ≤ wc.heap.size := K9.out.size
                          have hzb : B3 ≤ (wc.alloc (.cells #[.string u.nm, .slice q9 u.args.length d9] 27)).heap.size := by simp; omega
                          have OKM := Lib.hid (okm (v := .slice oa Lm'.length oc) KK.out (show B3 ≤ wr.heap.size by omega) hw5 hcw (fun k e => (hlo k e).2) HW.out)
                          have HM9 : Hid (∀ y ∈ Lm' ++ [(u, Value.slice q9 u.args.length d9)], Gm N y.1) := Lib.hid (fun y hy => by
                            rcases List.mem_append.1 hy with hy | hy
                            · exact hM'.out y hy
                            · obtain rfl := List.mem_singleton.1 hy
                              exact GU.out)
                          have hcw5 : w5.heap.size ≤ wc.heap.size := by omega
                          clear hlo GU F9
                          obtain ⟨y1, y2, y3, y4, y5⟩ := H9.out.two
                          generalize hun : u.nm = un at *
                          have HUN := Lib.hid hun
                          generalize hul : u.args.length = ul at *
                          clear hun hul
                          go_wp2_with (at_builtin; go_must (refine wpList_append_lies _ rfl _ _ 25 rfl B3 27 i0 (.agg #[.string ⟨#[]⟩, .slice none 0 0]) 2 40 Tryz.underlying25 hi hz0 hz1 hz2 rfl (by decide) (.slice oa Lm'.length oc) Lm'.length (flatL Lm') rfl (O9.out.1.alloc _) ⟨wc.heap.size, 0, none⟩ 1 1 [.string un, .slice q9 ul d9] rfl rfl (news2 _ _ _ _) (one2 _ _ _ _) (by decide) A1 A2 hzb (wc.heap.size + 1) (by simp) ?_; intro g7 cap7 w7 hown hgrow hat hlt7; have O7 := Lib.hid (OwnA.add (t := u) (v1 := .slice q9 ul d9) O9.out S9.out (by rw [HUN.out]; exact n9) OKM.out (by rw [HUN.out]; exact hown) hgrow hat); have T7 := Lib.hid ((T9.out.below (below_alloc _ _)).grown hgrow (fun k e => HW.out k e)); have W7 : Hid (∀ i, (Value.slice (some ⟨g7, 0, none⟩) (Lm'.length + 1) cap7).ownBlock = some i → mo = some i ∨ w5.heap.size ≤ i) := Lib.hid (by (intro i e; have e' : g7 = i := (by simpa [Value.ownBlock] using e); subst e'; exact hat.elim (fun h => HW.out _ h) (fun h => Or.inr (by omega)))); clear hown hgrow hat))
                          go_roundw
                          case rel => exact ⟨j + 1, Lm' ++ [(u, .slice q9 ul d9)], by omega, by go_num, by simp; omega, O7, HM9, T7, W7⟩
                          case measure => simp [intOf]; omega
                    · obtain rfl : j = nq := by omega
                      have HF := Lib.hid (hT.out.has H5.out (fun e => by have := M1.out _ e; omega))
                      have CF := Lib.hid (Ch.lt C05.out hT.out (fun i e => by have := M1.out i e; omega))
                      go_wp2_with fail
                      go_roundw
                      case rel => exact ⟨k + 1, Lm', lf5, by omega, by go_num, g0, g1, by omega, hO', hM', HF, CF⟩
                      case measure => simp [intOf]; omega
              · obtain rfl : k = nl := by omega
                go_wp2_with fail
                go_loopw [12, 96] (fun mv i wt => ∃ (k : Nat) (Lm : List (Tm × Value)) (lf : Int), k ≤ L.length ∧ i = .int .i64 k ∧ 0 ≤ lf ∧ lf ≤ 1000000 ∧ Lm.length ≤ 5001000 + k ∧ Hid (OwnA ok3 B3 wt Lm mv) ∧ Hid (∀ y ∈ Lm, Gm N y.1) ∧ Hid (Has wt A #[.int .i64 lf]) ∧ Hid (Ch A wa wt)) (fun _ i _ => L.length - (intOf i).toNat)
                case atStart => exact ⟨0, Lm, lf, Nat.zero_le _, rfl, h0, h1, by omega, hO, hM, hH, hC⟩
                case round =>
                  clear h0 h1 hLl hO hM hH hC lf
                  obtain ⟨k, Lm, lf, hk, rfl, h0, h1, hLl, hO, hM, hH, hC⟩ := hrel
                  by_cases hlt : k < L.length
                  · obtain ⟨t, g, o, q, d, ht, rfl, hg, e1, e2, hts, htn⟩ := (AT3.out wr hC.out).row k (by rw [List.length_map]; exact hlt)
                    obtain ⟨oa, oc, rfl⟩ := hO.out.form
                    have GT := Lib.hid (GA3.out t (List.mem_of_getElem? ht))
                    have TS : Hid (SlIn ok3 wr t.args (.slice q t.args.length d)) := Lib.hid hts
                    have OL := hO.out.1.lt
                    have hB3r : B3 ≤ wr.heap.size := by have := hC.out.size; omega
                    have nv1 : (Value.slice oa Lm.length oc).ownBlock ≠ some A := fun e => by have := OL _ e; omega
                    have OB3 : Hid (∀ i, (Value.slice oa Lm.length oc).ownBlock = some i → wa.heap.size ≤ i) := Lib.hid (fun i e => by rw [← hB3]; exact (OL i e).1)
                    have OKM : Hid (∀ b, ok3 b → (ok3 b ∨ B3 ≤ b) ∧ b < wr.heap.size ∧ (Value.slice oa Lm.length oc).ownBlock ≠ some b) := Lib.hid (fun b hb => by
                      have h1 := HK1.out b hb
                      exact ⟨Or.inl hb, by omega, fun e => by have := OL _ e; omega⟩)
                    have A1 : Lm.length + 1 ≤ maxLen := by unfold maxLen; omega
                    have A2 : (Lm.length + 1) * 40 ≤ 140737488355328 := by omega
                    clear ht hts htn OL hg
                    obtain ⟨z1, hz1'⟩ : ∃ z, (t.nm.toList == [105, 110, 105, 116]) = z := ⟨_, rfl⟩
                    obtain ⟨z2, hz2'⟩ : ∃ z, (t.nm.toList == [110, 101, 120, 116]) = z := ⟨_, rfl⟩
                    obtain ⟨z3, hz3'⟩ : ∃ z, (t.nm.toList == [108, 101, 103, 97, 108]) = z := ⟨_, rfl⟩
                    generalize t.nm = tn at *
                    generalize t.args.length = ta at *
                    have hzb : ∀ n : ByteArray, B3 ≤ (wr.alloc (.cells #[.string n, .slice q ta d] 27)).heap.size := fun n => by simp; omega
                    by_cases ht1 : ta = 1
                    · have b1 : ((ta : Int) == 1) = true := by rw [beq_iff_eq]; omega
                      have b2 : ((ta : Int) == 2) = false := by rw [beq_eq_false_iff_ne]; omega
                      clear ht1
                      cases z1
                      · cases z2
                        · go_wp2_with fail
                          go_roundw
                          case rel => exact ⟨k + 1, Lm, lf, by omega, by go_num, h0, h1, by omega, hO, hM, hH, hC⟩
                          case measure => simp [intOf]; omega
                        · have GU : Hid (Gm N (.mk ⟨#[116, 114, 117, 101]⟩ t.args)) := Lib.hid (gm_name HN.out (show 4 ≤ N from H4.out) (show 4 ≤ 4 by omega) GT.out)
                          have HM9 : Hid (∀ y ∈ Lm ++ [(Tm.mk ⟨#[116, 114, 117, 101]⟩ t.args, Value.slice q ta d)], Gm N y.1) := Lib.hid (fun y hy => by
                            rcases List.mem_append.1 hy with hy | hy
                            · exact hM.out y hy
                            · obtain rfl := List.mem_singleton.1 hy
                              exact GU.out)
                          go_wp2_with (at_builtin; go_must (refine wpList_append_lies _ rfl _ _ 25 rfl B3 27 i0 (.agg #[.string ⟨#[]⟩, .slice none 0 0]) 2 40 Tryz.underlying25 hi hz0 hz1 hz2 rfl (by decide) (.slice oa Lm.length oc) Lm.length (flatL Lm) rfl (hO.out.1.alloc _) ⟨wr.heap.size, 0, none⟩ 1 1 [.string ⟨#[116, 114, 117, 101]⟩, .slice q ta d] rfl rfl (news2 _ _ _ _) (one2 _ _ _ _) (by decide) A1 A2 (hzb ⟨#[116, 114, 117, 101]⟩) (wr.heap.size + 1) (by simp) ?_; intro g7 cap7 w7 hown hgrow hat hlt7; have O7 := Lib.hid (OwnA.add (t := .mk ⟨#[116, 114, 117, 101]⟩ t.args) (v1 := .slice q ta d) hO.out TS.out (show 4 ≤ maxLen by unfold maxLen; omega) OKM.out hown hgrow hat); have C7 := Lib.hid (Ch.grown (Ch.alloc hC.out _) hgrow OB3.out); have H7 := Lib.hid (UniD.Has.grown (hH.out.alloc _) hgrow nv1); clear hown hgrow hat))
                          go_roundw
                          case rel => exact ⟨k + 1, Lm ++ [(.mk ⟨#[116, 114, 117, 101]⟩ t.args, .slice q ta d)], lf, by omega, by go_num, h0, h1, by simp; omega, O7, HM9, H7, C7⟩
                          case measure => simp [intOf]; omega
                      · have GU : Hid (Gm N (.mk ⟨#[116, 114, 117, 101]⟩ t.args)) := Lib.hid (gm_name HN.out (show 4 ≤ N from H4.out) (show 4 ≤ 4 by omega) GT.out)
                        have HM9 : Hid (∀ y ∈ Lm ++ [(Tm.mk ⟨#[116, 114, 117, 101]⟩ t.args, Value.slice q ta d)], Gm N y.1) := Lib.hid (fun y hy => by
                          rcases List.mem_append.1 hy with hy | hy
                          · exact hM.out y hy
                          · obtain rfl := List.mem_singleton.1 hy
                            exact GU.out)
                        go_wp2_with (at_builtin; go_must (refine wpList_append_lies _ rfl _ _ 25 rfl B3 27 i0 (.agg #[.string ⟨#[]⟩, .slice none 0 0]) 2 40 Tryz.underlying25 hi hz0 hz1 hz2 rfl (by decide) (.slice oa Lm.length oc) Lm.length (flatL Lm) rfl (hO.out.1.alloc _) ⟨wr.heap.size, 0, none⟩ 1 1 [.string ⟨#[116, 114, 117, 101]⟩, .slice q ta d] rfl rfl (news2 _ _ _ _) (one2 _ _ _ _) (by decide) A1 A2 (hzb ⟨#[116, 114, 117, 101]⟩) (wr.heap.size + 1) (by simp) ?_; intro g7 cap7 w7 hown hgrow hat hlt7; have O7 := Lib.hid (OwnA.add (t := .mk ⟨#[116, 114, 117, 101]⟩ t.args) (v1 := .slice q ta d) hO.out TS.out (show 4 ≤ maxLen by unfold maxLen; omega) OKM.out hown hgrow hat); have C7 := Lib.hid (Ch.grown (Ch.alloc hC.out _) hgrow OB3.out); have H7 := Lib.hid (UniD.Has.grown (hH.out.alloc _) hgrow nv1); clear hown hgrow hat))
                        go_roundw
                        case rel => exact ⟨k + 1, Lm ++ [(.mk ⟨#[116, 114, 117, 101]⟩ t.args, .slice q ta d)], lf, by omega, by go_num, h0, h1, by simp; omega, O7, HM9, H7, C7⟩
                        case measure => simp [intOf]; omega
                    · have b1 : ((ta : Int) == 1) = false := by rw [beq_eq_false_iff_ne]; omega
                      by_cases ht2 : ta = 2
                      · have b2 : ((ta : Int) == 2) = true := by rw [beq_iff_eq]; omega
                        clear ht1 ht2
                        cases z3
                        · go_wp2_with fail
                          go_roundw
                          case rel => exact ⟨k + 1, Lm, lf, by omega, by go_num, h0, h1, by omega, hO, hM, hH, hC⟩
                          case measure => simp [intOf]; omega
                        · have GU : Hid (Gm N (.mk ⟨#[100, 111, 101, 115]⟩ t.args)) := Lib.hid (gm_name HN.out (show 4 ≤ N from H4.out) (show 4 ≤ 4 by omega) GT.out)
                          have HM9 : Hid (∀ y ∈ Lm ++ [(Tm.mk ⟨#[100, 111, 101, 115]⟩ t.args, Value.slice q ta d)], Gm N y.1) := Lib.hid (fun y hy => by
                            rcases List.mem_append.1 hy with hy | hy
                            · exact hM.out y hy
                            · obtain rfl := List.mem_singleton.1 hy
                              exact GU.out)
                          go_wp2_with (at_builtin; go_must (refine wpList_append_lies _ rfl _ _ 25 rfl B3 27 i0 (.agg #[.string ⟨#[]⟩, .slice none 0 0]) 2 40 Tryz.underlying25 hi hz0 hz1 hz2 rfl (by decide) (.slice oa Lm.length oc) Lm.length (flatL Lm) rfl (hO.out.1.alloc _) ⟨wr.heap.size, 0, none⟩ 1 1 [.string ⟨#[100, 111, 101, 115]⟩, .slice q ta d] rfl rfl (news2 _ _ _ _) (one2 _ _ _ _) (by decide) A1 A2 (hzb ⟨#[100, 111, 101, 115]⟩) (wr.heap.size + 1) (by simp) ?_; intro g7 cap7 w7 hown hgrow hat hlt7; have O7 := Lib.hid (OwnA.add (t := .mk ⟨#[100, 111, 101, 115]⟩ t.args) (v1 := .slice q ta d) hO.out TS.out (show 4 ≤ maxLen by unfold maxLen; omega) OKM.out hown hgrow hat); have C7 := Lib.hid (Ch.grown (Ch.alloc hC.out _) hgrow OB3.out); have H7 := Lib.hid (UniD.Has.grown (hH.out.alloc _) hgrow nv1); clear hown hgrow hat))
                          go_roundw
                          case rel => exact ⟨k + 1, Lm ++ [(.mk ⟨#[100, 111, 101, 115]⟩ t.args, .slice q ta d)], lf, by omega, by go_num, h0, h1, by simp; omega, O7, HM9, H7, C7⟩
                          case measure => simp [intOf]; omega
                      · have b2 : ((ta : Int) == 2) = false := by rw [beq_eq_false_iff_ne]; omega
                        clear ht1 ht2
                        go_wp2_with fail
                        go_roundw
                        case rel => exact ⟨k + 1, Lm, lf, by omega, by go_num, h0, h1, by omega, hO, hM, hH, hC⟩
                        case measure => simp [intOf]; omega
                  · have hkl : k = L.length := by omega
                    subst hkl
                    have hO6 := hO
                    obtain ⟨oa, oc, rfl⟩ := hO.out.form
                    have hCs := hC.out.size
                    have S6 := Lib.hid (S3.out wr hC.out)
                    have D6 := Lib.hid (DW.out wr hC.out)
                    have hAV := SS.out.own.1.lt
                    have AV : Hid (∀ i, (Value.slice va L.length vc).ownBlock = some i → A + 4 ≤ i ∧ i < B3) := Lib.hid (fun i e => by have := hAV i e; omega)
                    have EX : Hid (∀ i, exA A (.slice va L.length vc) i → i < B3 ∧ ¬ ok3 i) := Lib.hid (fun i e => by
                      rcases e with e | e | e
                      · exact ⟨by omega, fun h => by have := (HK1.out _ h).1; omega⟩
                      · exact ⟨by omega, fun h => by have := (HK1.out _ h).1; omega⟩
                      · exact ⟨(AV.out i e).2, fun h => (HK1.out _ h).2.2 e⟩)
                    have L6 : Hid (Lt (exA A (.slice va L.length vc)) wr wr) := Lib.hid (Lt.of (Below.refl _ _))
                    have W6 : Hid (∀ i, (Value.slice va L.length vc).ownBlock = some i → (Value.slice va L.length vc).ownBlock = some i ∨ wr.heap.size ≤ i) := Lib.hid (fun i e => Or.inl e)
                    obtain ⟨wb, hwb⟩ : ∃ z, z = wr := ⟨_, rfl⟩
                    subst hwb
                    clear hAV
                    go_wp2_with fail
                    go_loopw [160] (fun i wt => ∃ (k : Nat) (L' : List (Tm × Value)) (M' : List ByteArray) (av' : Value), k ≤ Lm.length ∧ i = .int .i64 k ∧ L'.length ≤ 1000 + k ∧ Hid (St N ((N + 3) * 20 ^ 4) (20 ^ 4) A wt L' M' av') ∧ Hid (Lt (exA A (.slice va L.length vc)) wb wt) ∧ Hid (∀ i, av'.ownBlock = some i → (Value.slice va L.length vc).ownBlock = some i ∨ wb.heap.size ≤ i)) (fun i _ => Lm.length - (intOf i).toNat)
                    case atStart => exact ⟨0, L, M, _, Nat.zero_le _, rfl, by omega, S6, L6, W6⟩
                    case round =>
                      clear S6 L6 W6
                      obtain ⟨k, L', M', av', hk6, rfl, hl6, hS6, hT6, hV6⟩ := hrel
                      by_cases hlt6 : k < Lm.length
                      · obtain ⟨x, g, q, d, okx, hx, rfl, hg, e1, e2, hokx, hxs, hxn⟩ := own_row hO6.out k hlt6
                        have u1 := (hT6.out.cell (g := g) (o := k * 2) hg.2 (fun e => by have := EX.out _ e; omega)).trans e1
                        have u2 := (hT6.out.cell (g := g) (o := k * 2 + 1) hg.2 (fun e => by have := EX.out _ e; omega)).trans e2
                        have GX := hM.out x (List.mem_of_getElem? hx)
                        have nx : ∀ b, okx b → ¬ exA A (.slice va L.length vc) b := fun b hb e => by
                          have a1 := EX.out b e
                          rcases (hokx b hb).1 with h | h
                          · exact a1.2 h
                          · omega
                        have CA := Lib.hid (add_any N A wr L' M' av' hS6.out (by omega) x.1 (.slice q x.1.args.length d) okx (fun b hb => ⟨by
                            rcases (hokx b hb).1 with h | h
                            · exact (HK1.out b h).1
                            · exact Or.inr (by omega), Nat.lt_of_lt_of_le (hokx b hb).2 hT6.out.size, fun e => by
                            rcases hV6.out b e with h | h
                            · exact nx b hb (Or.inr (Or.inr h))
                            · have := (hokx b hb).2; omega⟩) (hxs.frame fun b o hb => hT6.out.cell (hokx b hb).2 (nx b hb)) hxn GX.1 GX.2.1 GX.2.2)
                        clear hx e1 e2 hokx hxs hxn GX nx
                        generalize x.1.nm = xn at *
                        generalize x.1.args.length = xa at *
                        go_wp2_with fail
                        refine CA.out.mono ?_
                        rintro e w7 ⟨rfl, L7, M7, av7, S7, hl7, hl8, T7, V7⟩
                        have SS7 := Lib.hid S7
                        have ho6 := hS6.out.own.1.lt
                        have TT7 := Lib.hid (Lt.trans2 hT6.out T7 (fun i e => by
                          rcases e with e | e | e
                          · exact Or.inl (Or.inl e)
                          · exact Or.inl (Or.inr (Or.inl e))
                          · exact (hV6.out i e).imp (fun h => Or.inr (Or.inr h)) id))
                        have VV7 : Hid (∀ i, av7.ownBlock = some i → (Value.slice _ L.length vc).ownBlock = some i ∨ wb.heap.size ≤ i) := Lib.hid (fun i e => (V7 i e).elim (fun h => hV6.out i h) fun h => Or.inr (Nat.le_trans hT6.out.size h))
                        clear S7 T7 V7 ho6 CA
                        go_wp2_with fail
                        go_roundw
                        case rel => exact ⟨k + 1, L7, M7, av7, by omega, by go_num, by omega, SS7, TT7, VV7⟩
                        case measure => simp [intOf]; omega
                      · obtain rfl : k = Lm.length := by omega
                        have OO : Hid (OS N A 10000000 w0 wr) := Lib.hid ⟨L', M', av', lf, hS6.out, hT6.out.has hH.out (fun e => by
                          rcases e with e | e | e
                          · omega
                          · omega
                          · have := AV.out _ e; omega), h0, h1, by omega, D6.out.trans (hT6.out.toBelow (by omega) fun i e => by
                          rcases e with e | e | e
                          · omega
                          · omega
                          · have := AV.out _ e; omega)⟩
                        go_wp2_with fail
                        go_roundw
                        case rel => exact ⟨(L.length : Int), rfl, by omega, by omega, OO⟩
                        case measure => simp [intOf]; omega
          · go_wp2_with fail
            refine bodyPost_ret (by simp [results, Tryz.results78, go_sem]; rfl) rfl ?_
            exact ⟨by simp, by rw [← HA.out]; exact DD.out⟩
        · have hi2 : ¬ ((L.length : Nat) : Int) ≤ 1000 := by omega
          by_cases hc : m < (L.length : Int)
          all_goals
            go_wp2_with fail
            refine bodyPost_ret (by simp [results, Tryz.results78, go_sem]; rfl) rfl ?_
            exact ⟨by simp, by rw [← HA.out]; exact DD.out⟩
end LihD
end Go.Proofs.YtjfgnmmcdgpiiaaGreatDoor
/- Small terms at the bound 20. Made by gensmall.py. No conditions. -/
namespace Go.Proofs.YtjfgnmmcdgpiiaaGreatDoor
open Go Go.RowKit
namespace Sm20
open LexM TermM TermI Kit TermN TermS UniK UniM UniA
set_option maxRecDepth 100000 in
set_option maxHeartbeats 1600000 in
theorem parts_any (D : Nat) : ∀ (t : Tm) (B : Nat) (w : World) (sv : Value), D ≤ 20 → B ≤ w.heap.size → SlIn (· < B) w t.args sv →
    Calls Tryz.prog 49 #[.agg #[.string t.nm, sv], .int .i64 20, .int .i64 D] w fun e w' => e = .returned (.int .i64 (partsT 20 D t)) ∧ Gr w w' := by
  induction D with
  | zero =>
    intro t B w sv hD hB h
    obtain ⟨p, c, rfl, hn, hc, hm, hR⟩ := h.row
    clear hR h
    go_enter Tryz.func49, Tryz.ntmps49
    go_wp2_with fail
    go_ret
    exact ⟨rfl, Gr.alloc _ _⟩
  | succ D ih =>
    rintro ⟨n, l⟩ B w sv hD hB h
    dsimp only [Tm.args, Tm.nm] at h ⊢
    obtain ⟨p, c, rfl, hn, hc, hm, hR⟩ := h.row
    obtain ⟨E, hE⟩ : ∃ E : Int, E = ((D + 1 : Nat) : Int) := ⟨_, rfl⟩
    rw [← hE]
    have hE1 : 1 ≤ E := by omega
    have hE2 : E ≤ 20 := by omega
    have hE3 : (D : Int) = E - 1 := by omega
    have IH : Hid (∀ (t : Tm) (w : World) (v : Value), B ≤ w.heap.size → SlIn (· < B) w t.args v → Calls Tryz.prog 49 #[.agg #[.string t.nm, v], .int .i64 20, .int .i64 (E - 1)] w fun e w' => e = .returned (.int .i64 (partsT 20 D t)) ∧ Gr w w') :=
      Lib.hid (fun t w v hB h => by rw [← hE3]; exact ih t B w v (by omega) hB h)
    clear hE3 hE
    have NX := Lib.hid (upN_next 20 D l)
    have ST := Lib.hid (upN_stuck 20 D l)
    have PB : Hid (∀ t, partsT 20 D t ≤ 20000) := Lib.hid (fun t => by
      have h1 := parts_le 20 D t
      have h2 : (D + 1) * (20 + 1) ≤ 21 * 22 := Nat.le_trans (Nat.mul_le_mul_right 21 (show _ ≤ 22 by omega)) (by decide)
      omega)
    have UB : Hid (∀ k, upN 20 D (l.take k) ≤ 20000) := Lib.hid (fun k => by
      have h1 : upN 20 D (l.take k) = partsT 20 (D + 1) (.mk n (l.take k)) := by simp only [partsT]; rfl
      have h2 := parts_le 20 (D + 1) (.mk n (l.take k))
      have h3 : (D + 1 + 1) * (20 + 1) ≤ 21 * 22 := Nat.le_trans (Nat.mul_le_mul_right 21 (show _ ≤ 22 by omega)) (by decide)
      omega)
    have FL : Hid (upN 20 D (l.take l.length) = upN 20 D l) := Lib.hid (by simp)
    have RT : Hid (partsT 20 (D + 1) (.mk n l) = upN 20 D l) := Lib.hid (by simp only [partsT]; rfl)
    have U0 : Hid (upN 20 D (l.take 0) = 1) := Lib.hid (by simp [upN])
    have HB := Lib.hid hB
    have HR := Lib.hid hR
    generalize partsT 20 (D + 1) (.mk n l) = R at *
    generalize hm' : l.length = m at *
    have HM := Lib.hid hm'
    clear ih hR h hm' hn
    unfold maxLen at hm
    go_enter Tryz.func49, Tryz.ntmps49
    go_wp2_with fail
    go_loopw [7, 16] (fun d i wr => ∃ k : Nat, k ≤ m ∧ i = .int .i64 k ∧ d = .int .i64 (upN 20 D (l.take k)) ∧ Hid (Gr (w.alloc (.cells #[.string n, .slice p m c] 27)) wr)) (fun _ i _ => m - (intOf i).toNat)
    case atStart => exact ⟨0, Nat.zero_le _, rfl, by rw [U0.out]; rfl, Lib.hid (Gr.refl _)⟩
    case round =>
      obtain ⟨k, hk, rfl, rfl, hg⟩ := hrel
      have hd := UB.out k
      by_cases hlt : k < m
      · obtain ⟨t, b, o, q, d, ht, rfl, hb, c1, c2, hs, hts⟩ := (HR.out.gr ((Gr.alloc _ _).trans hg.out) HB.out) k (by rw [HM.out]; exact hlt)
        obtain ⟨b0, b1, _, _, hbl⟩ := (hg.out.has (Has.new w _ _)).two
        have n1 := NX.out k t ht
        have n2 := PB.out t
        by_cases hst : 20 < upN 20 D (l.take k)
        · have HF := Lib.hid (ST.out k hst)
          clear n1
          go_wp2_with fail
          go_ret
          exact ⟨ret_int (by rw [RT.out, HF.out]), (Gr.alloc _ _).trans hg.out⟩
        · rw [if_neg hst] at n1
          have HD := Lib.hid n1
          have HS := Lib.hid hs
          clear n1 ht hs
          have hst' : upN 20 D (l.take k) ≤ 20 := by omega
          go_wp2_with fail
          refine (IH.out _ _ _ (Nat.le_trans HB.out ((Gr.alloc _ _).trans hg.out).size) HS.out).mono ?_
          rintro e w' ⟨rfl, g2⟩
          have hg2 := Lib.hid (hg.out.trans g2)
          clear g2
          go_wp2_with fail
          go_roundw
          case rel => exact ⟨k + 1, by omega, by go_num, by rw [HD.out]; first | rfl | (congr 1; omega), hg2⟩
          case measure => simp [intOf]; omega
      · obtain rfl : k = m := by omega
        have HF := Lib.hid FL.out
        go_wp2_with fail
        go_ret
        exact ⟨ret_int (by rw [RT.out, HF.out]), (Gr.alloc _ _).trans hg.out⟩
theorem small_any (t : Tm) (B : Nat) (w : World) (sv : Value) (hB : B ≤ w.heap.size) (h : SlIn (· < B) w t.args sv) :
    Calls Tryz.prog 25 #[.agg #[.string t.nm, sv], .int .i64 20] w fun e w' => e = .returned (.bool (decide (partsT 20 20 t ≤ 20))) ∧ Gr w w' := by
  obtain ⟨p, c, rfl, hn, hc, hm, hR⟩ := h.row
  have HC : Hid (Calls Tryz.prog 49 #[.agg #[.string t.nm, .slice p t.args.length c], .int .i64 20, .int .i64 20] (w.alloc (.cells #[.string t.nm, .slice p t.args.length c] 27)) fun e w' => e = .returned (.int .i64 (partsT 20 20 t)) ∧ Gr (w.alloc (.cells #[.string t.nm, .slice p t.args.length c] 27)) w') :=
    Lib.hid (parts_any 20 t B _ _ (by omega) (Nat.le_trans hB (Gr.alloc _ _).size) (h.gr (Gr.alloc _ _) hB))
  clear hR h hn
  go_enter Tryz.func25, Tryz.ntmps25
  go_wp2_with fail
  refine HC.out.mono ?_
  rintro e w' ⟨rfl, g2⟩
  have hg2 := Lib.hid ((Gr.alloc _ _).trans g2)
  clear g2
  go_wp2_with fail
  go_ret
  exact ⟨ret_bool (by rw [Bool.eq_iff_iff]; simp; omega), hg2.out⟩
end Sm20
end Go.Proofs.YtjfgnmmcdgpiiaaGreatDoor
/- The reference's extend. Condition: bindings and pattern together at most a million. -/
namespace Go.Proofs.YtjfgnmmcdgpiiaaGreatDoor
open Go Go.RowKit
namespace UniS
open LexM TermM TermI Kit TermN TermU UniK UniM UniA UniC UniD UniE UniG UniJ UniO UniL UniR
set_option maxRecDepth 100000 in
set_option maxHeartbeats 1600000 in
theorem rext_var (n : ByteArray) (t : Tm) (s : List Bd) (hl : s.length ≤ 1000000) (B : Nat) (w : World) (sv tv : Value) (p1 : Option Addr) (c1 : Nat) (hB : B ≤ w.heap.size) (hs : SIn (· < B) w s sv) (ht : SlIn (· < B) w t.args tv) (hpn : n.size ≤ maxLen) (htn : t.nm.size ≤ maxLen) (hv : isV (.mk n []) = true) :
    Calls Tryz.prog 52 #[.agg #[.string n, .slice p1 0 c1], .agg #[.string t.nm, tv], sv] w (BndR (bindP false s n t) w) := by
  obtain ⟨p2, c2, rfl⟩ := ht.form
  obtain ⟨W2, hW2⟩ : ∃ W2, W2 = (w.alloc (.cells #[.string n, .slice p1 0 c1] 27)).alloc (.cells #[.string t.nm, .slice p2 t.args.length c2] 27) := ⟨_, rfl⟩
  have G2 : Gr w W2 := by rw [hW2]; exact (Gr.alloc _ _).more _
  have H2 : Hid (Has W2 w.heap.size #[.string n, .slice p1 0 c1]) := Lib.hid (by rw [hW2]; exact (Has.new w _ _).alloc _)
  have T2 : Hid (Has W2 (w.heap.size + 1) #[.string t.nm, .slice p2 t.args.length c2]) := Lib.hid (by rw [hW2]; exact Has.new1 w _ _ _)
  have CV := Lib.hid (fun w' => rvar_t (.mk n []) p1 c1 w' hpn)
  rw [hv] at CV
  dsimp only [Tm.nm, Tm.args, List.length_nil] at CV
  have CL := Lib.hid (fun w' (k : Below w.heap.size w w') => rlookup_any s n B w' sv (Nat.le_trans hB k.size) (hs.deep k hB))
  have CP := Lib.hid (fun w' (k : Below w.heap.size w w') => put_any s (n, t) hl B w' sv (.slice p2 t.args.length c2) (Nat.le_trans hB k.size) (hs.deep k hB) ⟨ht.deep k hB, htn, hpn⟩)
  have CE := Lib.hid (fun (u : Tm) (q : Value) w' (k : Below w.heap.size w w') (hu : SlIn (· < B) w' u.args q) => TermEq.term_any u (cmpT u t == 0) B w' q t (.slice p2 t.args.length c2) (by rw [beq_iff_eq, cmp_zero]) (Nat.le_trans hB k.size) hu (ht.deep k hB))
  have SS := Lib.hid (fun w' (k : Below w.heap.size w w') => (hs.deep k hB).wide (ok' := (· < w'.heap.size)) fun b hb => by have := k.size; omega)
  have EPs := Lib.hid (fun u (h : lookS s n = some u) => show bindP false s n t = (if cmpT u t = 0 then some s else none) from by unfold bindP; rw [h])
  have EPn := Lib.hid (fun (h : lookS s n = none) => show bindP false s n t = some (putS (n, t) s) from by unfold bindP; rw [h]; simp)
  have GG := Lib.hid G2
  obtain ⟨y1, y2, y3, y4, y5⟩ := H2.out.two
  clear hs ht hpn htn hv hl G2
  generalize lookS s n = o9 at *
  dsimp only at CP
  generalize t.nm = tn at *
  generalize t.args.length = ta at *
  unfold RLkR at CL
  unfold InsR at CP
  go_enter Tryz.func52, Tryz.ntmps52
  go_upto_region 1 with fail
  rw [← hW2]
  clear hW2
  go_wp2_with fail
  refine (CV.out _).mono ?_
  rintro e w3 ⟨rfl, g3⟩
  have D3 := Lib.hid (next0 GG.out.1 g3.1)
  have H3 := Lib.hid (H2.out.step0 g3.1)
  have T3 := Lib.hid (T2.out.step0 g3.1)
  clear y1 y2 y3 y4 y5 CV g3 H2 T2
  obtain ⟨y1, y2, y3, y4, y5⟩ := H3.out.two
  go_wp2_with fail
  refine (CL.out _ D3.out).mono ?_
  rintro e w4 ⟨u, q, d, f, rfl, hc, hS, hnu, hb⟩
  have D4 := Lib.hid (next0 D3.out hb)
  have H4 := Lib.hid (H3.out.step0 hb)
  have T4 := Lib.hid (T3.out.step0 hb)
  have S4 := Lib.hid hS
  have HC := Lib.hid hc
  clear y1 y2 y3 y4 y5 CL hb D3 H3 T3 hS hnu hc
  obtain ⟨y1, y2, y3, y4, y5⟩ := H4.out.two
  obtain ⟨z1, z2, z3, z4, z5⟩ := T4.out.two
  have K5 := Lib.hid (fun (o : Obj) => below_alloc w4 o)
  have T5 := Lib.hid (fun (o : Obj) => (T4.out.alloc o).two)
  have H5 := Lib.hid (fun (o : Obj) => (H4.out.alloc o).two)
  rcases HC.out with ⟨ho, rfl⟩ | ⟨ho, hu, rfl⟩
  · subst ho
    have CE5 := Lib.hid (fun (w' : World) (k : Below w4.heap.size w4 w') => CE.out u (.slice q u.args.length d) w' (next0 D4.out k) (S4.out.deep k (by have := D4.out.size; omega)))
    obtain ⟨z, hz⟩ : ∃ z, (cmpT u t == 0) = z := ⟨_, rfl⟩
    have EZ : Hid (bindP false s n t = if z = true then some s else none) := Lib.hid (by rw [EPs.out u rfl, ← hz]; simp)
    rw [hz] at CE5
    clear hz CE HC EPs EPn S4
    generalize u.nm = un at *
    generalize u.args.length = ua at *
    go_wp2_with fail
    refine (CE5.out _ (below_alloc _ _)).mono ?_
    rintro e w5 ⟨rfl, g5⟩
    have D5 := Lib.hid (next0 D4.out (next0 (below_alloc w4 _) g5.1))
    go_wp2_with fail
    refine bodyPost_ret (v := .tuple #[sv, .bool z]) (by simp [results, Tryz.results52, go_sem]) rfl ?_
    unfold BndR
    cases z
    · exact ⟨_, false, rfl, (fun h => by cases h), (fun _ => EZ.out), D5.out⟩
    · exact ⟨_, true, rfl, (fun _ => ⟨s, EZ.out, SS.out _ D5.out⟩), (fun h => by cases h), D5.out⟩
  · subst ho
    subst hu
    have EO := Lib.hid (EPn.out rfl)
    clear EPs EPn CE HC
    go_wp2_with fail
    refine (CP.out _ (next0 D4.out (below_alloc _ _))).mono ?_
    rintro e w5 ⟨v5, rfl, hS5, hb5⟩
    have D5 := Lib.hid (next0 D4.out (next0 (below_alloc w4 _) hb5))
    have S5 := Lib.hid hS5
    clear hS5 hb5
    go_wp2_with fail
    refine bodyPost_ret (v := .tuple #[v5, .bool true]) (by simp [results, Tryz.results52, go_sem]) rfl ?_
    unfold BndR
    exact ⟨_, true, rfl, (fun _ => ⟨_, EO.out, S5.out⟩), (fun h => by cases h), D5.out⟩
set_option maxRecDepth 100000 in
set_option maxHeartbeats 3200000 in
theorem rext_any (p : Tm) : ∀ (t : Tm) (s : List Bd), Srt s → s.length + sizeT p ≤ 1000000 → ∀ (B : Nat) (w : World) (sv pv tv : Value), B ≤ w.heap.size → SIn (· < B) w s sv → SlIn (· < B) w p.args pv → SlIn (· < B) w t.args tv → p.nm.size ≤ maxLen → t.nm.size ≤ maxLen →
    Calls Tryz.prog 52 #[.agg #[.string p.nm, pv], .agg #[.string t.nm, tv], sv] w (BndR (extP false p t s) w) := by
  induction p using Tm.ind with
  | h n l ih =>
    rintro ⟨n2, r⟩ s hS hl B w sv pv tv hB hs hp ht hpn htn
    by_cases hv : isV (.mk n l) = true
    · have hl0 : l = [] := by cases l with
        | nil => rfl
        | cons a l => simp [isV, Tm.args] at hv
      subst hl0
      obtain ⟨p1, c1, rfl⟩ := hp.form
      have := rext_var n (.mk n2 r) s (by omega) B w sv tv p1 c1 hB hs ht hpn htn hv
      have e : extP false (.mk n []) (.mk n2 r) s = bindP false s n (.mk n2 r) := by rw [extP, if_pos hv]
      rw [e]
      exact this
    have hv0 : isV (.mk n l) = false := by simpa using hv
    dsimp only [Tm.args, Tm.nm] at hp hpn ht htn ⊢
    obtain ⟨p1, c1, rfl, _, hlc, hcm, hPR⟩ := hp.row
    obtain ⟨p2, c2, rfl, _, _, _, hTR⟩ := ht.row
    have h63 : l.length ≤ 9223372036854775807 := by unfold maxLen at hcm; omega
    clear hlc hcm
    obtain ⟨W2, hW2⟩ : ∃ W2, W2 = (w.alloc (.cells #[.string n, .slice p1 l.length c1] 27)).alloc (.cells #[.string n2, .slice p2 r.length c2] 27) := ⟨_, rfl⟩
    have G2 : Gr w W2 := by rw [hW2]; exact (Gr.alloc _ _).more _
    have H2 : Hid (Has W2 w.heap.size #[.string n, .slice p1 l.length c1]) := Lib.hid (by rw [hW2]; exact (Has.new w _ _).alloc _)
    have T2 : Hid (Has W2 (w.heap.size + 1) #[.string n2, .slice p2 r.length c2]) := Lib.hid (by rw [hW2]; exact Has.new1 w _ _ _)
    have CV := Lib.hid (fun w' => rvar_t (.mk n l) p1 c1 w' hpn)
    have IH : Hid (∀ x ∈ l, ∀ (y : Tm) (s' : List Bd), Srt s' → s'.length + sizeT x ≤ 1000000 → ∀ (w' : World) (sv' v1 v2 : Value), SIn (· < w'.heap.size) w' s' sv' → SlIn (· < w'.heap.size) w' x.args v1 → SlIn (· < w'.heap.size) w' y.args v2 → x.nm.size ≤ maxLen → y.nm.size ≤ maxLen → Calls Tryz.prog 52 #[.agg #[.string x.nm, v1], .agg #[.string y.nm, v2], sv'] w' (BndR (extP false x y s') w')) :=
      Lib.hid (fun x hx y s' h1 h2 w' sv' v1 v2 h3 h4 h5 h6 h7 => ih x hx y s' h1 h2 w'.heap.size w' sv' v1 v2 (Nat.le_refl _) h3 h4 h5 h6 h7)
    have KP := Lib.hid (fun (x : Tm) (y : Tm) s' s'' (h : Srt s') (e : extP false x y s' = some s'') => ext_keeps false x y s' s'' h e)
    have GG := Lib.hid G2
    have HB := Lib.hid hB
    have HPR := Lib.hid hPR
    have HTR := Lib.hid hTR
    have SS := Lib.hid (fun w' (k : Below w.heap.size w w') => (hs.deep k hB).wide (ok' := (· < w'.heap.size)) fun b hb => by have := k.size; omega)
    have hl2 : s.length + (sizeL (l.drop 0) + 1) ≤ 1000000 := by simpa [sizeT] using hl
    have HSL := Lib.hid (And.intro hS hl2)
    have SD := Lib.hid (fun k x (h : l[k]? = some x) => show sizeL (l.drop k) = sizeT x + sizeL (l.drop (k + 1)) from by
      obtain ⟨hk, rfl⟩ := List.getElem?_eq_some_iff.1 h
      rw [List.drop_eq_getElem_cons hk, sizeL])
    have EP : Hid (extP false (.mk n l) (.mk n2 r) s = if eqB n n2 && decide (l.length = r.length) then extL false l r s else none) := Lib.hid (by rw [extP, hv0]; rfl)
    rw [hv0] at CV
    clear hs hp ht hpn htn hPR hTR hS hl hl2 ih hB G2 hv hv0
    obtain ⟨y1, y2, y3, y4, y5⟩ := H2.out.two
    obtain ⟨zn, hzn⟩ : ∃ z, (n.toList == n2.toList) = z := ⟨_, rfl⟩
    have HZN : eqB n n2 = zn := by unfold eqB; rw [← hzn, ByteArray.toList_eq, ByteArray.toList_eq]
    rw [HZN] at EP
    have hzn2 : (n.toList != n2.toList) = !zn := by rw [bne, hzn]
    clear HZN
    dsimp only [Tm.nm, Tm.args] at CV
    unfold BndR at IH
    generalize hla : l.length = a at *
    generalize hlr : r.length = b at *
    have HLA := Lib.hid hla
    have HLR := Lib.hid hlr
    clear hla hlr
    go_enter Tryz.func52, Tryz.ntmps52
    go_upto_region 1 with fail
    rw [← hW2]
    clear hW2
    go_wp2_with fail
    refine (CV.out _).mono ?_
    rintro e w3 ⟨rfl, g3⟩
    have D3 := Lib.hid (next0 GG.out.1 g3.1)
    have H3 := Lib.hid (H2.out.step0 g3.1)
    have T3 := Lib.hid (T2.out.step0 g3.1)
    clear y1 y2 y3 y4 y5 g3 H2 T2 CV
    obtain ⟨y1, y2, y3, y4, y5⟩ := H3.out.two
    obtain ⟨z1, z2, z3, z4, z5⟩ := T3.out.two
    cases zn
    · have EO : Hid (extP false (.mk n l) (.mk n2 r) s = none) := Lib.hid (EP.out.trans (by simp))
      clear EP IH KP
      go_wp2_with fail
      refine bodyPost_ret (v := .tuple #[.slice none 0 0, .bool false]) (by simp [results, Tryz.results52, go_sem]) rfl ?_
      unfold BndR
      exact ⟨_, false, rfl, (fun h => by cases h), (fun _ => EO.out), D3.out⟩
    · by_cases hab : a = b
      · subst hab
        have EO : Hid (extP false (.mk n l) (.mk n2 r) s = extL false (l.drop 0) (r.drop 0) s) := Lib.hid (EP.out.trans (by simp))
        clear EP
        go_wp2_with fail
        clear y1 y2 y3 y4 y5 z1 z2 z3 z4 z5
        go_loopw [2, 10, 11] (fun v kv i wr => ∃ (k : Nat) (ok : Bool) (s' : List Bd), k ≤ a ∧ kv = .bool ok ∧ i = .int .i64 k ∧ Hid (ok = true → extL false (l.drop 0) (r.drop 0) s = extL false (l.drop k) (r.drop k) s' ∧ Srt s' ∧ s'.length + (sizeL (l.drop k) + 1) ≤ 1000000 ∧ SIn (· < wr.heap.size) wr s' v) ∧ Hid (ok = false → extL false (l.drop 0) (r.drop 0) s = none) ∧ Hid (Below w3.heap.size w3 wr)) (fun _ _ i _ => a - (intOf i).toNat)
        case atStart => exact ⟨0, true, s, Nat.zero_le _, rfl, rfl, Lib.hid (fun _ => ⟨rfl, HSL.out.1, HSL.out.2, SS.out _ D3.out⟩), Lib.hid (fun h => by cases h), Lib.hid (Below.refl _ _)⟩
        case round =>
          obtain ⟨k, ok, s', hk, rfl, rfl, hT, hF, hD⟩ := hrel
          obtain ⟨y1, y2, y3, y4, y5⟩ := (H3.out.step0 hD.out).two
          obtain ⟨z1, z2, z3, z4, z5⟩ := (T3.out.step0 hD.out).two
          have D5 := Lib.hid (next0 D3.out hD.out)
          cases ok
          · have EF : Hid (extP false (.mk n l) (.mk n2 r) s = none) := Lib.hid (EO.out.trans (hF.out rfl))
            clear hT hF IH KP
            by_cases hlt : k < a
            all_goals
              go_wp2_with fail
              refine bodyPost_ret (by simp [results, Tryz.results52, go_sem]; rfl) rfl ?_
              unfold BndR
              exact ⟨_, false, rfl, (fun h => by cases h), (fun _ => EF.out), D5.out⟩
          · have HQ := Lib.hid (hT.out rfl)
            clear hT hF
            by_cases hlt : k < a
            · obtain ⟨x, b, o, q, d, hx, rfl, hb, e1, e2, hxs, hxn⟩ := (Row.deep HPR.out D5.out HB.out) k (by rw [HLA.out]; exact hlt)
              obtain ⟨y, b2, o2, q2, d2, hy, rfl, hb2, u1, u2, hys, hyn⟩ := (Row.deep HTR.out D5.out HB.out) k (by rw [HLR.out]; exact hlt)
              have EX := Lib.hid (HQ.out.1.trans (ext_list hx hy s'))
              have SX := Lib.hid (SD.out k x hx)
              have hsx : s'.length + (sizeT x + sizeL (l.drop (k + 1)) + 1) ≤ 1000000 := by have := HQ.out.2.2.1; rw [SX.out] at this; exact this
              have CI := Lib.hid (fun w' (g : Below wr.heap.size wr w') => IH.out x (List.mem_of_getElem? hx) y s' HQ.out.2.1 (by omega) w' _ _ _ ((HQ.out.2.2.2.deep g (Nat.le_refl _)).wide fun b hb => Nat.lt_of_lt_of_le hb g.size) ((hxs.deep g (Nat.le_trans HB.out D5.out.size)).weaken fun b hb => Nat.lt_of_lt_of_le hb (Nat.le_trans HB.out (Nat.le_trans D5.out.size g.size))) ((hys.deep g (Nat.le_trans HB.out D5.out.size)).weaken fun b hb => Nat.lt_of_lt_of_le hb (Nat.le_trans HB.out (Nat.le_trans D5.out.size g.size))) hxn hyn)
              have KK := Lib.hid (fun s'' (e : extP false x y s' = some s'') => KP.out x y s' s'' HQ.out.2.1 e)
              have NX := Lib.hid (fun (n : Nat) (h : n ≤ s'.length + sizeT x) => show n + (sizeL (l.drop (k + 1)) + 1) ≤ 1000000 from by omega)
              clear hx hy hxs hxn hys hyn hsx SX IH KP SS SD HSL HQ
              generalize extP false x y s' = o9 at *
              generalize x.nm = xn at *
              generalize x.args.length = xa at *
              generalize y.nm = yn at *
              generalize y.args.length = ya at *
              go_wp2_with fail
              go_region_with (first
                | (go_at_call 52; (with_reducible refine (CI.out _ (by first | exact Below.refl _ _ | exact (Below.refl _ _).drew | exact below_drewN (Below.refl _ _) _)).mono ?_); rintro e w6 ⟨v6, f, rfl, h1, h2, hb6⟩; have D6 : Hid (Below wr.heap.size wr w6) := Lib.hid (by first | exact hb6 | exact next0 (Below.refl _ _).drew hb6 | exact next0 (below_drewN (Below.refl _ _) _) hb6); have HH := Lib.hid (And.intro h1 h2); clear h1 h2 hb6))
              all_goals
                go_wp2_with fail
                go_roundw
                case rel =>
                  cases f
                  · exact ⟨k + 1, false, [], by omega, rfl, by go_num, Lib.hid (fun h => by cases h), Lib.hid (fun _ => EX.out.trans (by rw [HH.out.2 rfl])), Lib.hid (next0 hD.out D6.out)⟩
                  · obtain ⟨s9, hs9, hI9⟩ := HH.out.1 rfl
                    exact ⟨k + 1, true, s9, by omega, rfl, by go_num, Lib.hid (fun _ => ⟨EX.out.trans (by rw [hs9]), (KK.out s9 hs9).1, NX.out _ (KK.out s9 hs9).2.2.1, hI9⟩), Lib.hid (fun h => by cases h), Lib.hid (next0 hD.out D6.out)⟩
                case measure => simp [intOf]; omega
            · obtain rfl : k = a := by omega
              have EF : Hid (extP false (.mk n l) (.mk n2 r) s = some s') := Lib.hid (by
                rw [EO.out, HQ.out.1, ← HLA.out, List.drop_length, HLA.out, ← HLR.out, List.drop_length]
                rfl)
              have I9 := Lib.hid HQ.out.2.2.2
              clear HQ IH KP
              go_wp2_with fail
              refine bodyPost_ret (by simp [results, Tryz.results52, go_sem]; rfl) rfl ?_
              unfold BndR
              exact ⟨_, true, rfl, (fun _ => ⟨s', EF.out, I9.out⟩), (fun h => by cases h), D5.out⟩
      · have hai : ((a : Int) == (b : Int)) = false := by rw [beq_eq_false_iff_ne]; omega
        have haj : ((a : Int) != (b : Int)) = true := by rw [bne, hai]; rfl
        have EO : Hid (extP false (.mk n l) (.mk n2 r) s = none) := Lib.hid (EP.out.trans (by simp [hab]))
        clear EP IH KP hab
        go_wp2_with fail
        refine bodyPost_ret (v := .tuple #[.slice none 0 0, .bool false]) (by simp [results, Tryz.results52, go_sem]) rfl ?_
        unfold BndR
        exact ⟨_, false, rfl, (fun h => by cases h), (fun _ => EO.out), D3.out⟩
end UniS
end Go.Proofs.YtjfgnmmcdgpiiaaGreatDoor
