/- Texts laid together: UnnA; UnrG; UnrJ; UnrK; UnrL; UnrN. Their own heads stand before each. -/
import Derived.Test.YtihbnonbhelbmaaGreatDoorGD
import Derived.Test.YtihbnonbhelbmaaGreatDoorGA
import Derived.Test.YtihbnonbhelbmaaGreatDoorGC
import Derived.Deep.DeepHandedRow
import Derived.Lib.LaidTab
import Derived.Lib.LaidU8
import Derived.LaidSub
import Derived.ChangeMaps5
import Derived.Test.YtihbnonbhelbmaaGreatDoorGB
import Derived.Test.YtihbnonbhelbmaaGreatDoorLigU
import Derived.Deep.RegionHeld3
import Derived.Deep.DeepCutAuto
import Derived.Test.YtihbnonbhelbmaaGreatDoorUniE
import Derived.Test.YtihbnonbhelbmaaGreatDoorUniR
/- How a list of bindings that comes in is opened; the four listed variables of the unify rows: a world that holds them, and what a row's list gives a walk. No conditions. -/
namespace Go.Proofs.YtihbnonbhelbmaaGreatDoor
open Go Go.RowKit Go.ChangeShapes Go.WideShapes Go.ChangeAt Go.Deep
namespace UnnA
open LexM TermM TermI Kit TermU UniM UniK
theorem cellsBd : Tryz.prog.cellsOf 52 = 3 := by kernel_rfl
theorem underBd : ∃ f0 f1 : Field, Tryz.prog.underlying 52 = some (.struct #[f0, f1]) ∧ f0.offset = 0 ∧ f1.offset = 1 ∧ f0.type = 9 ∧ f1.type = 27 := ⟨_, _, Tryz.underlying52, rfl, rfl, rfl, rfl⟩
theorem three_of (l : List Value) (h : l.length = 3) : ∃ a b c, l = [a, b, c] := by
  match l, h with
  | [a, b, c], _ => exact ⟨a, b, c, rfl⟩
/-- Three cells that read as a binding. -/
theorem bind_in {H : Type} {enc : TypeId × Value → H} {W : World} {base : Nat} {sp : Nat → Bool} {held : Bool} {n : Nat} {cs : List Value} {x : DataW H × List MemPlace}
    (h : DataW.trod enc Tryz.prog W base sp held n 52 cs = some x) : ∃ (y : Bd) (v : Value), cs = KB.cells (y, v) ∧ KB.inn (· < W.heap.size) W (y, v) := by
  obtain ⟨f0, f1, hu, o0, o1, y0, y1⟩ := underBd
  obtain ⟨xs, k, hk, hxy, hcl, hxl, hf⟩ := DataW.trod_struct hu h
  rw [cellsBd] at hcl
  obtain ⟨v0, v1, v2, rfl⟩ := three_of cs hcl
  match xs, hxl with
  | [x0, x1], _ =>
    have g0 := hf 0 f0 rfl
    have g1 := hf 1 f1 rfl
    simp [o0, o1, y0, y1, cellsS, cellsT] at g0 g1
    obtain ⟨s, q1, q2, hs⟩ := DataW.trod_string Tryz.underlying9 g0
    simp at q1
    subst q1
    obtain ⟨t, v, k2, y, e, _, ht, hv, hx1⟩ := struct_in g1
    injection e with e1 e2
    injection e2 with e2 _
    subst e1 e2
    obtain ⟨l, v', e', hin⟩ := slice_in _ _ _ hv
    injection e' with e' _
    subst e'
    exact ⟨(s, .mk t l), _, rfl, hin, ht, hs⟩
/-- A slice value that reads as a slice of bindings. -/
theorem binds_in {H : Type} {enc : TypeId × Value → H} {W : World} {base : Nat} {sp : Nat → Bool} {held : Bool} {n : Nat} {cs : List Value} {x : DataW H × List MemPlace}
    (h : DataW.trod enc Tryz.prog W base sp held n 22 cs = some x) : ∃ (l : List Bd) (v : Value), cs = [v] ∧ SIn (· < W.heap.size) W l v := by
  rcases DataW.trod_slice Tryz.underlying22 h with ⟨rfl, rfl⟩ | ⟨a, len, cap, elems, rest, m, hn, rfl, rfl, _, hle, hm, hlen, hel, _⟩
  · exact ⟨[], _, rfl, SIn.nil _ _⟩
  · have each : ∀ i, i < len → ∃ tv : Bd × Value, (∀ j u, (KB.cells tv)[j]? = some u → W.cell? (a.add (i * 3 + j)) = some u) ∧ KB.inn (· < W.heap.size) W tv := by
      intro i hi
      have he := hel i hi
      rw [List.getElem?_eq_getElem (by omega)] at he
      obtain ⟨cs', h1, h2⟩ := Option.bind_eq_some_iff.1 he
      rw [cellsBd] at h1
      obtain ⟨_, hl2, hcell⟩ := World.cells?_some h1
      obtain ⟨y, v, rfl, hin⟩ := bind_in h2
      refine ⟨(y, v), fun j u hu => ?_, hin⟩
      have hj := (List.getElem?_eq_some_iff.1 hu).1
      have hj3 : j < 3 := by rw [KB.len] at hj; exact hj
      have e0 := hcell j (by omega)
      rw [add_add] at e0
      rw [e0]
      exact hu
    obtain ⟨tvs, htl, hall⟩ := gather each
    obtain ⟨b, off, spot⟩ := a
    have hsp : tvs ≠ [] → spot = none ∧ b < W.heap.size := by
      intro hne
      obtain ⟨tv, hg⟩ : ∃ tv, tvs[0]? = some tv := by cases tvs with
        | nil => exact absurd rfl hne
        | cons a r => exact ⟨a, rfl⟩
      have h0 := (hall 0 tv hg).1 0 _ rfl
      have h2 : spot = none := by simpa [Addr.add] using World.cell?_spot h0
      subst h2
      exact ⟨rfl, by simpa [Addr.add] using block_lt_of_cell h0⟩
    refine ⟨tvs.map (·.1), .slice (some ⟨b, off, spot⟩) len cap, rfl, tvs, rfl, _, cap, by rw [htl], by omega, hm, fun x hx => ?_, fun hl => ?_⟩
    · obtain ⟨i, hi⟩ := List.mem_iff_getElem?.1 hx
      exact (hall i x hi).2
    · obtain ⟨rfl, hb⟩ := hsp (by intro e; subst e; simp at hl)
      refine ⟨b, off, rfl, hb, fun i x hx j u hu => ?_⟩
      have := (hall i x hx).1 j u hu
      rw [addr_add, ← Nat.add_assoc] at this
      exact this
set_option maxRecDepth 100000 in
theorem open_binds {H : Type} {enc : TypeId × Value → H} {W : World} {b0 : Nat} {base : Nat} {sp : Nat → Bool} {held : Bool} {v : Value} {d : DataW H} {p : List MemPlace}
    (hv : Value.okWide Tryz.prog W .any b0 22 v) (h : DataW.Trod enc Tryz.prog W base sp held 22 v d p) : ∃ l, SIn (· < W.heap.size) W l v := by
  obtain ⟨a0, m0, c0, rfl⟩ := Go.WideShapes.okWide_slice Tryz.underlying22 hv
  obtain ⟨fuel, hf⟩ := h
  obtain ⟨l, v, e, hin⟩ := binds_in hf
  simp [Value.cells] at e
  subst e
  exact ⟨l, hin⟩
/-! ### The listed variables -/
abbrev list : List (String × DataW Unit) := [("math/bits.deBruijn32tab", Rows.laid_math_bits_deBruijn32tab), ("math/bits.deBruijn64tab", Rows.laid_math_bits_deBruijn64tab), ("internal/strconv.uint64pow10", Rows.laid_internal_strconv_uint64pow10), ("gameplayer/term.nameEnds", Rows.laid_gameplayer_term_nameEnds)]
def cellsOf (zs : List Int) (k : IntKind) : Array Value := (zs.map fun z => Value.int k z).toArray
noncomputable def laidWorld (os : Os) : World :=
  TermJ.lay1 (TermJ.lay1 (TermJ.lay1 (TermJ.lay1 (World.holding Tryz.prog os ⟨#[], #[], []⟩)
    1 (cellsOf Lib.pow10Tab .u64))
    2 (cellsOf [0, 1, 28, 2, 29, 14, 24, 3, 30, 22, 20, 15, 25, 17, 4, 8, 31, 27, 13, 23, 21, 19, 16, 7, 26, 12, 18, 6, 11, 5, 10, 9] .u8))
    3 (cellsOf [0, 1, 56, 2, 57, 49, 28, 3, 61, 58, 42, 50, 38, 29, 17, 4, 62, 47, 59, 36, 45, 43, 51, 22, 53, 39, 33, 30, 24, 18, 12, 5, 63, 55, 48, 27, 60, 41, 37, 16, 46, 35, 44, 21, 52, 32, 23, 11, 54, 26, 40, 15, 34, 20, 31, 10, 25, 14, 19, 9, 13, 8, 7, 6] .u8))
    0 #[.int .u8 40, .int .u8 44, .int .u8 41]
theorem laid_met_gen (os : Os) (args : Array Value) : laidMet Tryz.prog list ((laidWorld os).forCall (fun _ _ => 0) ⟨#[], args, []⟩).memory :=
  laidMet_of_run' 8 (by kernel_rfl) (by kernel_rfl)
theorem ends_gen {W : World} (h : laidMetH Tryz.prog list W) : TermT.Wd W := by
  have h1 : laidMet Tryz.prog list W := h
  have h2 := laidMet.filter (fun x => x.1 == "gameplayer/term.nameEnds") h1
  have h3 : laidMet Tryz.prog TermJ.list W := h2
  exact TermJ.ends_gen h3
theorem awake_all {W : World} (h : TermT.Wd W) : UniW.Aw W := fun w' k => UnmL.awake_any w' (h.below k h.1)
end UnnA
end Go.Proofs.YtihbnonbhelbmaaGreatDoor
/- The reference's Vars of a rule. Conditions: at most a thousand literals, at most a million parts. -/
namespace Go.Proofs.YtihbnonbhelbmaaGreatDoor
open Go Go.RowKit
namespace UnrG
open LexM TermM TermI Kit TermN TermU TermL TermE TermF UniK UniM UniA UniD UniE UniG LigG LigU UnrA UnrF
theorem colls_one (t : Tm) : collX [] t = collXs [] [t] := by simp [collX, collXs, leavesL]
theorem ats_zero (h : Tm) (l : List Lt) : atsL h (l.take 0) = [h] := by simp [atsL]
theorem colls_all (h : Tm) (l : List Lt) : collXs [] (atsL h l) = varsOf (leavesL (atsL h l)) := rfl
theorem colls_snoc (xs : List ByteArray) (l : List Tm) (t : Tm) : collXs xs (l ++ [t]) = collX (collXs xs l) t := by
  unfold collXs collX
  rw [leavesL_app, List.foldl_append]
  simp [leavesL]
theorem ats_size {h : Tm} {l : List Lt} (hz : sizeL (atsL h l) ≤ 1000000) (k : Nat) {x : Lt} (hx : l[k]? = some x) : sizeL (atsL h (l.take k)) + sizeT x.2 ≤ 1000000 := by
  have e : atsL h (l.take (k + 1)) = atsL h (l.take k) ++ [x.2] := ats_next hx
  have h1 : atsL h l = atsL h (l.take (k + 1)) ++ (l.drop (k + 1)).map (·.2) := by
    unfold atsL
    rw [List.cons_append, ← List.map_append, List.take_append_drop]
  have h2 := sizeL_app (atsL h (l.take (k + 1))) ((l.drop (k + 1)).map (·.2))
  rw [← h1, e, sizeL_app] at h2
  simp only [sizeL] at h2
  omega
set_option maxRecDepth 100000 in
set_option maxHeartbeats 3200000 in
theorem rvars_rule (h : Tm) (l : List Lt) (w : World) (hv lv : Value) (hs : SlIn (· < w.heap.size) w h.args hv) (hl : LIn (· < w.heap.size) w l lv) (hn : h.nm.size ≤ maxLen) (hll : l.length ≤ 1000) (hz : sizeL (atsL h l) ≤ 1000000) :
    Calls Tryz.prog 65 #[.agg #[.string h.nm, hv, lv]] w (Vrs (varsOf (leavesL (atsL h l))) w) := by
  obtain ⟨p, c, rfl⟩ := hs.form
  obtain ⟨lp, lc, rfl⟩ := hl.form
  obtain ⟨W1, hW1⟩ : ∃ W1, W1 = w.alloc (.cells #[.string h.nm, .slice p h.args.length c, .slice lp l.length lc] 34) := ⟨_, rfl⟩
  have R1 : Hid (Has W1 w.heap.size #[.string h.nm, .slice p h.args.length c, .slice lp l.length lc]) := Lib.hid (by rw [hW1]; exact Has.new _ _ _)
  have K1 : Hid (Below w.heap.size w W1) := Lib.hid (by rw [hW1]; exact below_alloc _ _)
  have hs1 : w.heap.size + 1 ≤ W1.heap.size := by rw [hW1]; simp
  have C0 : Hid (Calls Tryz.prog 97 #[.slice none 0 0, .agg #[.string h.nm, .slice p h.args.length c]] W1 (ColQ W1.heap.size (.slice none 0 0) (collXs [] (atsL h (l.take 0))) W1)) := Lib.hid (by
    rw [ats_zero, ← colls_one]
    refine coll_any h w.heap.size W1 W1.heap.size _ _ [] ⟨rfl, Or.inl ⟨rfl, rfl⟩⟩ (Nat.le_refl _) (by omega) (hs.deep K1.out (Nat.le_refl _)) hn ?_
    have : sizeT h ≤ sizeL (atsL h l) := by unfold atsL; simp only [sizeL]; omega
    simp only [List.length_nil]
    omega)
  have LL := Lib.hid (fun w' (k : Below w.heap.size w w') => hl.keep (w' := w') fun b o hb => k.cell (p := ⟨b, o, none⟩) hb)
  have IT := Lib.hid (fun k x (hx : l[k]? = some x) w' v sv (ho : w'.ownsRow W1.heap.size 9 1 v (collXs [] (atsL h (l.take k))).length (strs (collXs [] (atsL h (l.take k))))) (hb : W1.heap.size ≤ w'.heap.size) (hs : SlIn (· < w.heap.size) w' x.2.args sv) (hn : x.2.nm.size ≤ maxLen) =>
    show Calls Tryz.prog 97 #[v, .agg #[.string x.2.nm, sv]] w' (ColQ W1.heap.size v (collXs [] (atsL h (l.take (k + 1)))) w') from by
      rw [ats_next hx, colls_snoc]
      refine coll_any x.2 w.heap.size w' W1.heap.size _ _ _ ho hb (by omega) hs hn ?_
      have h1 := colls_le [] (atsL h (l.take k))
      have h2 := ats_size hz k hx
      simp only [List.length_nil] at h1
      omega)
  have FL : Hid (collXs [] (atsL h (l.take l.length)) = varsOf (leavesL (atsL h l))) := Lib.hid (by rw [List.take_length, colls_all])
  clear hs hl hn hz
  generalize varsOf (leavesL (atsL h l)) = vz at *
  unfold Vrs
  unfold ColQ at C0 IT
  generalize hnl : l.length = n at *
  have HNL := Lib.hid hnl
  clear hnl
  generalize h.nm = hnm at *
  generalize h.args.length = hln at *
  obtain ⟨y1, y2, y3⟩ := UniA.three R1.out
  go_enter Tryz.func65, Tryz.ntmps65
  go_upto_region 1 with fail
  rw [← hW1]
  clear hW1
  go_wp2_with fail
  refine C0.out.mono ?_
  rintro e w2 ⟨v2, rfl, ho2, hg2, hv2⟩
  have O2 := Lib.hid ho2
  have G2 : Hid (Below W1.heap.size W1 w2) := Lib.hid (gb_base hg2 (Nat.le_refl _) (fun j hj => by simp [Value.ownBlock] at hj))
  have X2 := Lib.hid (R1.out.step0 G2.out)
  clear ho2 hg2 hv2 C0 y1 y2 y3
  go_wp2_with fail
  go_loopw [3, 4] (fun u i wr => ∃ k : Nat, k ≤ n ∧ i = .int .i64 k ∧ Hid (wr.ownsRow W1.heap.size 9 1 u (collXs [] (atsL h (l.take k))).length (strs (collXs [] (atsL h (l.take k))))) ∧ Hid (Below W1.heap.size W1 wr)) (fun _ i _ => n - (intOf i).toNat)
  case atStart => exact ⟨0, Nat.zero_le _, rfl, O2, G2⟩
  case round =>
    obtain ⟨k, hk, rfl, hO, hG⟩ := hrel
    obtain ⟨y1, y2, y3⟩ := UniA.three (R1.out.step0 hG.out)
    have DW := Lib.hid (next0 K1.out hG.out)
    by_cases hlt : k < n
    · obtain ⟨x, g, o, q5, d5, hx, rfl, hg, e1, e2, e3, hxs, hxn⟩ := lin_row (LL.out wr DW.out) k (by rw [HNL.out]; exact hlt)
      have CI := Lib.hid (IT.out k x hx wr _ _ hO.out hG.out.size hxs hxn)
      have VO := Lib.hid (fun j hj => show W1.heap.size ≤ j from (hO.out.lt j hj).1)
      have hsz := hG.out.size
      have e4 : wr.cell? ⟨g, o + k * 3 + 2, none⟩ = some (.slice q5 x.2.args.length d5) := e3
      clear hx hxs hxn e3
      generalize x.2.nm = xn at *
      generalize x.2.args.length = xl at *
      generalize x.1 = xb at *
      go_wp2_with fail
      refine CI.out.mono ?_
      rintro e w3 ⟨v3, rfl, ho3, hg3, hv3⟩
      have O3 := Lib.hid ho3
      have G3 := Lib.hid (hG.out.trans (gb_base hg3 hsz (fun j hj => VO.out j hj)))
      clear ho3 hg3 hv3 CI y1 y2 y3
      go_wp2_with fail
      go_roundw
      case rel => exact ⟨k + 1, by omega, by go_num, O3, G3⟩
      case measure => simp [intOf]; omega
    · obtain rfl : k = n := by omega
      have hO2 := hO.out
      rw [FL.out] at hO2
      have hO3 := Lib.hid hO2
      clear hO2
      go_wp2_with fail
      go_ret
      exact ⟨_, W1.heap.size, rfl, hO3.out, by omega, DW.out⟩
end UnrG
end Go.Proofs.YtihbnonbhelbmaaGreatDoor
/- ApplyRule of the reference where the substitution binds terms without arguments: all that comes back lies in new blocks. Made by genrapply0.py out of UnqC. Conditions: at most a thousand literals; what is called for each term answers. -/
namespace Go.Proofs.YtihbnonbhelbmaaGreatDoor
open Go Go.RowKit
namespace UnrJ
open LexM TermM TermI Kit TermN TermU UniK UniM UniA UniD UniE UniF UniG UniR UnmH LigG LigU LigY UnqA UnqB UniH UnrI
set_option maxRecDepth 100000 in
set_option maxHeartbeats 6400000 in
theorem rar_any0 (s : List Bd) (hF : ∀ b ∈ s, b.2.args = []) (hV : ∀ b ∈ s, varB b.1 = true) (h : Tm) (l : List Lt) (w : World) (sv hv lv : Value) (hss : SIn (· < w.heap.size) w s sv) (hs : SlIn (· < w.heap.size) w h.args hv) (hl : LIn (· < w.heap.size) w l lv) (hn : h.nm.size ≤ maxLen) (hll : l.length ≤ 1000) (hz : sizeT h ≤ 1000000) (hzl : ∀ x ∈ l, sizeT x.2 ≤ 1000000) :
    Calls Tryz.prog 24 #[sv, .agg #[.string h.nm, hv, lv]] w (RuX (fun _ => False) (appT s h) (atomsL (appT s) l) w) := by
  obtain ⟨ok0, hok0⟩ : ∃ f : Nat → Prop, f = (fun _ => False) := ⟨_, rfl⟩
  have hok : ∀ b, ok0 b → b < w.heap.size := by rw [hok0]; exact fun b h => h.elim
  obtain ⟨φ, hφ⟩ : ∃ f : Tm → Tm, f = appT s := ⟨_, rfl⟩
  have HC : ∀ (t : Tm) (w' : World) (q : Value), (t = h ∨ ∃ x ∈ l, x.2 = t) → Below w.heap.size w w' → SlIn (· < w.heap.size) w' t.args q → t.nm.size ≤ maxLen → Calls Tryz.prog 21 #[sv, .agg #[.string t.nm, q]] w' (RpX ok0 (φ t) w') := fun t w' q ht k hq hn => by
    rw [hok0, hφ]
    exact (rapply_any0 s hF hV t w.heap.size w' sv q k.size (hss.deep k (Nat.le_refl _)) hq hn (by rcases ht with rfl | ⟨x, hx, rfl⟩; exact hz; exact hzl x hx)).mono fun _ _ ⟨q2, d2, h1, h2, h3, h4⟩ => ⟨q2, d2, h1, h2.weaken fun b hb => Or.inr (hb.resolve_left (by omega)), h3, h4⟩
  rw [← hok0, ← hφ]
  obtain ⟨ps, cs, hsv⟩ := hss.form
  subst hsv
  clear hok0 hφ hss hz hzl hV hF
  generalize s.length = sn at *
  obtain ⟨p, c, rfl⟩ := hs.form
  obtain ⟨lp, lc, rfl⟩ := hl.form
  obtain ⟨i0, hi0, hi1, hi2, hi3⟩ := info_parts Tryz.infoL
  obtain ⟨W2, hW2⟩ : ∃ W2, W2 = (w.alloc (.cells #[.string h.nm, .slice p h.args.length c, .slice lp l.length lc] 34)).alloc (.cells #[.string ⟨#[]⟩, .slice none 0 0, .slice none 0 0] 34) := ⟨_, rfl⟩
  have B2 : Hid (Below w.heap.size w W2) := Lib.hid (by rw [hW2]; exact next0 (below_alloc _ _) (below_alloc _ _))
  have H2 : Hid (Has W2 w.heap.size #[.string h.nm, .slice p h.args.length c, .slice lp l.length lc]) := Lib.hid (by rw [hW2]; exact (Has.new w _ _).alloc _)
  have E2 : Hid (Has W2 (w.heap.size + 1) #[.string ⟨#[]⟩, .slice none 0 0, .slice none 0 0]) := Lib.hid (by rw [hW2]; exact Has.new1 w _ _ _)
  have hs2 : w.heap.size + 2 ≤ W2.heap.size := by rw [hW2]; simp
  have CB := Lib.hid (HC h W2 _ (Or.inl rfl) B2.out (hs.deep B2.out (Nat.le_refl _)) hn)
  have CX := Lib.hid (fun (x : Lt) (hx : x ∈ l) (q : Value) w0 (k0 : Below w.heap.size w w0) (hq : SlIn (· < w.heap.size) w0 x.2.args q) (hn : x.2.nm.size ≤ maxLen) w' (k : Below w.heap.size w w') (hq' : SlIn (· < w.heap.size) w' x.2.args q) => HC x.2 w' q (Or.inr ⟨x, hx, rfl⟩) k hq' hn)
  have LL := Lib.hid (fun w' (k : Below w.heap.size w w') => hl.keep (w' := w') fun b o hb => k.cell (p := ⟨b, o, none⟩) hb)
  have AT := Lib.hid (fun k x (hx : l[k]? = some x) => atoms_next (φ := φ) hx)
  have AE : Hid (atomsL φ (l.take l.length) = atomsL φ l) := Lib.hid (by rw [List.take_length])
  have AL : Hid (∀ k, k ≤ l.length → (atomsL φ (l.take k)).length = k) := Lib.hid (fun k hk => by unfold atomsL; rw [List.length_map, List.length_take]; omega)
  have OK0 := Lib.hid hok
  clear hs hn HC hok hl
  generalize φ h = u at *
  unfold RpX at CB CX
  generalize h.nm = hnm at *
  generalize h.args.length = hln at *
  generalize hnl : l.length = n at *
  have HNL := Lib.hid hnl
  clear hnl
  obtain ⟨y1, y2, y3⟩ := UniA.three H2.out
  go_enter Tryz.func24, Tryz.ntmps24
  go_upto_region 1 with fail
  rw [← hW2]
  clear hW2
  go_wp2_with fail
  refine CB.out.mono ?_
  rintro e w3 ⟨q, d, rfl, hS, hnu, k3⟩
  have D3 := Lib.hid (next0 B2.out k3)
  have H3 := Lib.hid (H2.out.step0 k3)
  have E3 := Lib.hid (E2.out.step0 k3)
  have hs3 : W2.heap.size ≤ w3.heap.size := k3.size
  have NU := Lib.hid hnu
  clear y1 y2 y3 hnu k3 H2 E2 CB
  obtain ⟨R, hR⟩ : ∃ m, m = w3.heap.size := ⟨_, rfl⟩
  have S3 : Hid (SlIn (fun b => ok0 b ∨ (W2.heap.size ≤ b ∧ b < R)) w3 u.args (.slice q u.args.length d)) := Lib.hid (by rw [hR]; exact hS)
  obtain ⟨W4, hW4⟩ : ∃ W4, W4 = w3.alloc (.cells #[.string u.nm, .slice q u.args.length d, .slice none 0 0] 34) := ⟨_, rfl⟩
  have K4 : Hid (Below w3.heap.size w3 W4) := Lib.hid (by rw [hW4]; exact below_alloc _ _)
  have R4 : Hid (Has W4 R #[.string u.nm, .slice q u.args.length d, .slice none 0 0]) := Lib.hid (by rw [hW4, hR]; exact Has.new _ _ _)
  have hs4 : R + 1 ≤ W4.heap.size := by rw [hW4, hR]; simp
  have H4 := Lib.hid (H3.out.step0 K4.out)
  have E4 := Lib.hid (E3.out.step0 K4.out)
  have D4 := Lib.hid (next0 D3.out K4.out)
  have hw2R : w.heap.size + 2 ≤ R := by omega
  have S4 := Lib.hid (S3.out.frame (w' := W4) fun b o hb => K4.out.cell (p := ⟨b, o, none⟩) (okx1 OK0.out (show w.heap.size ≤ w3.heap.size by omega) (show R ≤ w3.heap.size by omega) b hb))
  clear D3 H3 E3 S3 hS
  generalize hun : u.nm = hu at *
  have HHU := Lib.hid hun
  generalize hul : u.args.length = hl at *
  have HHL := Lib.hid hul
  clear hun hul
  obtain ⟨y1, y2, y3⟩ := UniA.three H4.out
  go_upto_region 2 with fail
  rw [← hW4, ← hR]
  clear hW4 hR
  go_wp2_with fail
  go_loopw [6] (fun i wr => ∃ (k : Nat) (L : List (Lt × Value)) (v : Value), k ≤ n ∧ i = .int .i64 k ∧ Hid (L.map (·.1) = atomsL φ (l.take k)) ∧ Hid (OwnX KL ok0 (R + 1) wr L v) ∧ Hid (Has wr R #[.string hu, .slice q hl d, v]) ∧ Hid (Has wr (w.heap.size + 1) #[.string ⟨#[]⟩, .slice none 0 0, .slice none 0 0]) ∧ Hid (Has wr w.heap.size #[.string hnm, .slice p hln c, .slice lp n lc]) ∧ Hid (SlIn (fun b => ok0 b ∨ (W2.heap.size ≤ b ∧ b < R)) wr u.args (.slice q hl d)) ∧ Hid (Below w.heap.size w wr)) (fun i _ => n - (intOf i).toNat)
  case atStart => exact ⟨0, [], _, Nat.zero_le _, rfl, Lib.hid rfl, Lib.hid (OwnX.nil _ _ _), R4, E4, H4, S4, D4⟩
  case round =>
    clear R4 E4 S4 H4 y1 y2 y3
    obtain ⟨k, L, v, hk, rfl, hM, hO, hRb, hE, hX, hS, hD⟩ := hrel
    obtain ⟨y1, y2, y3⟩ := UniA.three hX.out
    obtain ⟨va, vc, rfl⟩ := hO.out.form
    by_cases hlt : k < n
    · obtain ⟨x, g, o, q5, d5, hx, rfl, hg, e1, e2, e3, hxs, hxn⟩ := lin_row (LL.out wr hD.out) k (by rw [HNL.out]; exact hlt)
      have hLk : L.length = k := by
        have := congrArg List.length hM.out
        rw [List.length_map, AL.out k hk] at this
        exact this
      have CR0 := Lib.hid (fun w' (k : Below wr.heap.size wr w') => CX.out x (List.mem_of_getElem? hx) _ wr hD.out hxs hxn w' (next0 hD.out k) (hxs.deep k hD.out.size))
      have HM1 : Hid (∀ z : Value, (L ++ [((x.1, φ x.2), z)]).map (·.1) = atomsL φ (l.take (k + 1))) := Lib.hid (fun z => by rw [AT.out k x hx, List.map_append, hM.out]; rfl)
      obtain ⟨bx, hbx⟩ : ∃ m, m = wr.heap.size := ⟨_, rfl⟩
      have hOl := hO.out.1.lt
      have hRl := hRb.out.lt
      have OL : Hid (∀ k, (Value.slice va L.length vc).ownBlock = some k → R + 1 ≤ k ∧ k < bx) := Lib.hid (by rw [hbx]; exact hOl)
      have HR := Lib.hid hRb.out
      have O := Lib.hid hO.out
      have K := Lib.hid hD.out
      have EQ5 := Lib.hid hE.out
      have SQ5 := Lib.hid hS.out
      have HX := Lib.hid hX.out
      have hwr : w.heap.size ≤ wr.heap.size := hD.out.size
      have CR := Lib.hid (fun w' (k : Below wr.heap.size wr w') => CR0.out w' k)
      have AD := Lib.hid (fun (ok' : Nat → Prop) (w' : World) (v : Value) (h1 : SlIn ok' w' (φ x.2).args v) (h2 : (φ x.2).nm.size ≤ maxLen) => show KL.inn ok' w' ((x.1, φ x.2), v) from ⟨h1, h2⟩)
      have AF := Lib.hid (fun (w9 : World) (vv v : Value) (n : Nat) (h : w9.ownsRow (R + 1) 67 3 vv n (KL.flat L ++ [.bool x.1, .string (φ x.2).nm, v])) => show w9.ownsRow (R + 1) KL.ty 3 vv n (KL.flat L ++ KL.cells ((x.1, φ x.2), v)) from h)
      have hRb2 : R + 1 ≤ bx := by omega
      have hbW : bx ≤ wr.heap.size := by omega
      have A1 : L.length + 1 ≤ maxLen := by unfold maxLen; omega
      have A2 : (L.length + 1) * 48 ≤ 140737488355328 := by omega
      have Hb : Hid (∀ w', Lt (fun b => b = R ∨ (Value.slice va L.length vc).ownBlock = some b) wr w' → (w'.cell? ⟨w.heap.size, 2, none⟩ = some (.slice (some ⟨g, o, none⟩) n lc) ∧ w'.cell? ⟨g, o + k * 3, none⟩ = some (.bool x.1) ∧ w'.cell? ⟨g, o + k * 3 + 1, none⟩ = some (.string x.2.nm) ∧ w'.cell? ⟨g, o + k * 3 + 1 + 1, none⟩ = some (.slice q5 x.2.args.length d5))) := Lib.hid (fun w' gl => by
        have h1 := gl.has HX.out (fun e => by rcases e with e | e; omega; have := OL.out _ e; omega)
        have h2 : ∀ i, w'.cell? ⟨g, i, none⟩ = wr.cell? ⟨g, i, none⟩ := fun i => gl.cell (show g < wr.heap.size by omega) (fun e => by rcases e with e | e; omega; have := OL.out _ e; omega)
        exact ⟨h1.cell 2, (h2 _).trans e1, (h2 _).trans e2, (h2 _).trans e3⟩)
      clear hx hxs hxn hOl hRl CR0 hO hRb hE hS hX hLk e1 e2 e3
      generalize x.1 = xb at *
      generalize x.2.nm = xn at *
      generalize x.2.args.length = xl at *
      generalize (φ x.2).nm = un at *
      generalize (φ x.2).args.length = ul at *
      go_upto_region 5 with fail
      clear hbx y1 y2 y3
      have X0 : Hid (Lt (fun b => b = R ∨ (Value.slice va L.length vc).ownBlock = some b) wr wr.drew) := Lib.hid (Lt.of (Below.refl _ _).drew)
      have K0 : Hid (Below wr.heap.size wr wr.drew) := Lib.hid (Below.refl _ _).drew
      have HR0 := Lib.hid (HR.out.drew)
      have O0 : Hid (OwnX KL ok0 (R + 1) wr.drew L (.slice va L.length vc)) := Lib.hid (O.out.below (Below.refl _ _).drew)
      refine wp_region_held_drew (S := (fun w' => w'.cell? ⟨w.heap.size, 2, none⟩ = some (.slice (some ⟨g, o, none⟩) n lc) ∧ w'.cell? ⟨g, o + k * 3, none⟩ = some (.bool xb) ∧ w'.cell? ⟨g, o + k * 3 + 1, none⟩ = some (.string xn) ∧ w'.cell? ⟨g, o + k * 3 + 1 + 1, none⟩ = some (.slice q5 xl d5))) (by kernel_rfl) (Hb.out _ X0.out) (fun hHeld => ?_)
      have hz0 : wr.heap.size ≤ wr.drew.heap.size := Nat.le_refl _
      generalize hw0 : wr.drew = wz at hHeld X0 K0 HR0 O0 hz0 ⊢
      clear hw0
      refine wpAnyH_take (i := 0) (v := ?_) rfl (by kernel_rfl) (by kernel_rfl) (by kernel_rfl) (fun _ _ _ h => h) (Or.inl ⟨by rfl, ?_⟩) (by assumption) ?_
      rotate_left
      · intro w' hSw; (try dsimp only at hSw); (try simp only [List.getElem_toArray, List.getElem_cons_zero]); go_simp; try with_reducible rfl
      (try simp only [List.getElem_toArray, List.getElem_cons_zero, Act.put, List.setIfInBounds_toArray, List.set_cons_zero, List.set_cons_succ])
      refine wpAnyH_take (i := 2) (v := ?_) rfl (by kernel_rfl) (by kernel_rfl) (by kernel_rfl) (fun _ _ _ h => h) (Or.inl ⟨by rfl, ?_⟩) (by assumption) ?_
      rotate_left
      · intro w' hSw; (try dsimp only at hSw); (try simp only [List.getElem_toArray, List.getElem_cons_zero, List.getElem_cons_succ]); go_simp; try with_reducible rfl
      (try simp only [List.getElem_toArray, List.getElem_cons_zero, List.getElem_cons_succ, Act.put, List.setIfInBounds_toArray, List.set_cons_zero, List.set_cons_succ])
      refine wpAnyH_take (i := 3) (v := ?_) rfl (by kernel_rfl) (by kernel_rfl) (by kernel_rfl) (fun _ _ _ h => h) (Or.inl ⟨by rfl, ?_⟩) (by assumption) ?_
      rotate_left
      · intro w' hSw; (try dsimp only at hSw); (try simp only [List.getElem_toArray, List.getElem_cons_zero, List.getElem_cons_succ]); go_simp; try with_reducible rfl
      (try simp only [List.getElem_toArray, List.getElem_cons_zero, List.getElem_cons_succ, Act.put, List.setIfInBounds_toArray, List.set_cons_zero, List.set_cons_succ])
      refine wpAnyH_take (i := 4) (v := ?_) rfl (by kernel_rfl) (by kernel_rfl) (by kernel_rfl) (fun _ _ _ h => h) (Or.inl ⟨by rfl, ?_⟩) (by assumption) ?_
      rotate_left
      · intro w' hSw; (try dsimp only at hSw); (try simp only [List.getElem_toArray, List.getElem_cons_zero, List.getElem_cons_succ]); go_simp; try with_reducible rfl
      (try simp only [List.getElem_toArray, List.getElem_cons_zero, List.getElem_cons_succ, Act.put, List.setIfInBounds_toArray, List.set_cons_zero, List.set_cons_succ])
      refine wpAnyH_take (i := 5) (v := ?_) rfl (by kernel_rfl) (by kernel_rfl) (by kernel_rfl) (fun _ _ _ h => h) (Or.inl ⟨by rfl, ?_⟩) (by assumption) ?_
      rotate_left
      · intro w' hSw; (try dsimp only at hSw); (try simp only [List.getElem_toArray, List.getElem_cons_zero, List.getElem_cons_succ]); go_simp; try with_reducible rfl
      (try simp only [List.getElem_toArray, List.getElem_cons_zero, List.getElem_cons_succ, Act.put, List.setIfInBounds_toArray, List.set_cons_zero, List.set_cons_succ])
      refine wpAnyH_take (i := 6) (v := ?_) rfl (by kernel_rfl) (by kernel_rfl) (by kernel_rfl) (fun _ _ _ h => h) (Or.inl ⟨by rfl, ?_⟩) (by assumption) ?_
      rotate_left
      · intro w' hSw; (try dsimp only at hSw); (try simp only [List.getElem_toArray, List.getElem_cons_zero, List.getElem_cons_succ]); go_simp; try with_reducible rfl
      (try simp only [List.getElem_toArray, List.getElem_cons_zero, List.getElem_cons_succ, Act.put, List.setIfInBounds_toArray, List.set_cons_zero, List.set_cons_succ])
      refine wpAnyH_take (i := 7) (v := ?_) rfl (by kernel_rfl) (by kernel_rfl) (by kernel_rfl) (fun _ _ _ h => h) (Or.inl ⟨by rfl, ?_⟩) (by assumption) ?_
      rotate_left
      · intro w' hSw; (try dsimp only at hSw); (try simp only [List.getElem_toArray, List.getElem_cons_zero, List.getElem_cons_succ]); go_simp; try with_reducible rfl
      (try simp only [List.getElem_toArray, List.getElem_cons_zero, List.getElem_cons_succ, Act.put, List.setIfInBounds_toArray, List.set_cons_zero, List.set_cons_succ])
      refine wpAnyH_take (i := 8) (v := ?_) rfl (by kernel_rfl) (by kernel_rfl) (by kernel_rfl) (fun _ _ _ h => h) (Or.inl ⟨by rfl, ?_⟩) (by assumption) ?_
      rotate_left
      · intro w' hSw; (try dsimp only at hSw); (try simp only [List.getElem_toArray, List.getElem_cons_zero, List.getElem_cons_succ]); go_simp; try with_reducible rfl
      (try simp only [List.getElem_toArray, List.getElem_cons_zero, List.getElem_cons_succ, Act.put, List.setIfInBounds_toArray, List.set_cons_zero, List.set_cons_succ])
      refine wpAnyH_take (i := 9) (v := ?_) rfl (by kernel_rfl) (by kernel_rfl) (by kernel_rfl) (fun _ _ _ h => h) (Or.inl ⟨by rfl, ?_⟩) (by assumption) ?_
      rotate_left
      · intro w' hSw; (try dsimp only at hSw); (try simp only [List.getElem_toArray, List.getElem_cons_zero, List.getElem_cons_succ]); go_simp; try with_reducible rfl
      (try simp only [List.getElem_toArray, List.getElem_cons_zero, List.getElem_cons_succ, Act.put, List.setIfInBounds_toArray, List.set_cons_zero, List.set_cons_succ])
      refine wpAnyH_take (i := 10) (v := ?_) rfl (by kernel_rfl) (by kernel_rfl) (by kernel_rfl) (fun _ _ _ h => h) (Or.inl ⟨by rfl, ?_⟩) (by assumption) ?_
      rotate_left
      · intro w' hSw; (try dsimp only at hSw); (try simp only [List.getElem_toArray, List.getElem_cons_zero, List.getElem_cons_succ]); go_simp; try with_reducible rfl
      (try simp only [List.getElem_toArray, List.getElem_cons_zero, List.getElem_cons_succ, Act.put, List.setIfInBounds_toArray, List.set_cons_zero, List.set_cons_succ])
      refine wpAnyH_take (i := 11) (v := ?_) rfl (by kernel_rfl) (by kernel_rfl) (by kernel_rfl) (fun _ _ _ h => h) (Or.inl ⟨by rfl, ?_⟩) (by assumption) ?_
      rotate_left
      · intro w' hSw; (try dsimp only at hSw); (try simp only [List.getElem_toArray, List.getElem_cons_zero, List.getElem_cons_succ]); go_simp; try with_reducible rfl
      (try simp only [List.getElem_toArray, List.getElem_cons_zero, List.getElem_cons_succ, Act.put, List.setIfInBounds_toArray, List.set_cons_zero, List.set_cons_succ])
      refine wpAnyH_take (i := 12) (v := ?_) rfl (by kernel_rfl) (by kernel_rfl) (by kernel_rfl) (fun _ _ _ h => h) (Or.inl ⟨by rfl, ?_⟩) (by assumption) ?_
      rotate_left
      · intro w' hSw; (try dsimp only at hSw); (try simp only [List.getElem_toArray, List.getElem_cons_zero, List.getElem_cons_succ]); go_simp; try with_reducible rfl
      (try simp only [List.getElem_toArray, List.getElem_cons_zero, List.getElem_cons_succ, Act.put, List.setIfInBounds_toArray, List.set_cons_zero, List.set_cons_succ])
      refine wpAnyH_take (i := 13) (v := ?_) rfl (by kernel_rfl) (by kernel_rfl) (by kernel_rfl) (fun _ _ _ h => h) (Or.inl ⟨by rfl, ?_⟩) (by assumption) ?_
      rotate_left
      · intro w' hSw; (try dsimp only at hSw); (try simp only [List.getElem_toArray, List.getElem_cons_zero, List.getElem_cons_succ]); go_simp; try with_reducible rfl
      (try simp only [List.getElem_toArray, List.getElem_cons_zero, List.getElem_cons_succ, Act.put, List.setIfInBounds_toArray, List.set_cons_zero, List.set_cons_succ])
      refine wpAnyH_take (i := 14) (v := ?_) rfl (by kernel_rfl) (by kernel_rfl) (by kernel_rfl) (fun _ _ _ h => h) (Or.inl ⟨by rfl, ?_⟩) (by assumption) ?_
      rotate_left
      · intro w' hSw; (try dsimp only at hSw); (try simp only [List.getElem_toArray, List.getElem_cons_zero, List.getElem_cons_succ]); go_simp; try with_reducible rfl
      (try simp only [List.getElem_toArray, List.getElem_cons_zero, List.getElem_cons_succ, Act.put, List.setIfInBounds_toArray, List.set_cons_zero, List.set_cons_succ])
      refine wpAnyH_ready (rs := [1, 15]) (by kernel_rfl) (by simp) ?_
      refine (AllReadyH.cons rfl (fun K' hK => ?_) (AllReadyH.cons rfl (fun K' hK => ?_) AllReadyH.nil))
      · skip
        obtain ⟨f1, f2, f3, f4, f5, f6, f7⟩ := UnpP.has3 HR0.out
        go_simp
        (try go_split_ands)
        clear f1 f2 f3 f4 f5 f6 f7
        refine hK.out _ _ (Hb.out _ X0.out) (fun hHeld => ?_)
        clear hK K'
        (try simp only [List.getElem_toArray, List.getElem_cons_zero, List.getElem_cons_succ, Act.put, List.setIfInBounds_toArray, List.set_cons_zero, List.set_cons_succ])
        refine wpAnyH_ready (rs := [15]) (by kernel_rfl) (by simp) ?_
        refine (AllReadyH.cons rfl (fun K' hK => ?_) AllReadyH.nil)
        go_simp
        (try go_split_ands)
        go_at_call 21
        (with_reducible refine (CR.out _ K0.out).mono ?_)
        rintro e w21 ⟨q7, d7, rfl, s7, n7, k7⟩
        have X1 := Lib.hid (Lt.below X0.out k7)
        have K1 := Lib.hid (next0 K0.out k7)
        have HR1 := Lib.hid (HR0.out.step0 k7)
        have O1 := Lib.hid (O0.out.below k7)
        have hz1 : wz.heap.size ≤ w21.heap.size := k7.size
        obtain ⟨lo, hlo⟩ : ∃ m, m = wz.heap.size := ⟨_, rfl⟩
        obtain ⟨hi, hhi⟩ : ∃ m, m = w21.heap.size := ⟨_, rfl⟩
        rw [← hlo, ← hhi] at s7
        have S1 := Lib.hid s7
        have N7 := Lib.hid n7
        clear s7 n7 k7
        refine hK.out _ _ (Hb.out _ X1.out) (fun hHeld => ?_)
        clear hK K'
        (try simp only [List.getElem_toArray, List.getElem_cons_zero, List.getElem_cons_succ, Act.put, List.setIfInBounds_toArray, List.set_cons_zero, List.set_cons_succ])
        refine wpAnyH_take (i := 16) (v := ?_) rfl (by kernel_rfl) (by kernel_rfl) (by kernel_rfl) (fun _ _ _ h => h) (Or.inl ⟨by rfl, ?_⟩) (by assumption) ?_
        rotate_left
        · intro w' hSw; (try dsimp only at hSw); (try simp only [List.getElem_toArray, List.getElem_cons_zero, List.getElem_cons_succ]); go_simp; try with_reducible rfl
        (try simp only [List.getElem_toArray, List.getElem_cons_zero, List.getElem_cons_succ, Act.put, List.setIfInBounds_toArray, List.set_cons_zero, List.set_cons_succ])
        refine wpAnyH_ready (rs := [17]) (by kernel_rfl) (by simp) ?_
        refine (AllReadyH.cons rfl (fun K' hK => ?_) AllReadyH.nil)
        go_simp
        (try go_split_ands)
        obtain ⟨w22, hw2⟩ : ∃ z, z = w21.alloc (.cells #[.bool xb, .string un, .slice q7 ul d7] 67) := ⟨_, rfl⟩
        rw [← hw2]
        have J2 : Hid (Below w21.heap.size w21 w22) := Lib.hid (by rw [hw2]; exact below_alloc _ _)
        have HB2 : Hid (Has w22 w21.heap.size #[.bool xb, .string un, .slice q7 ul d7]) := Lib.hid (by rw [hw2]; exact Has.new _ _ _)
        have hz2 : w21.heap.size + 1 ≤ w22.heap.size := by rw [hw2]; simp
        clear hw2
        have X2 := Lib.hid (Lt.below X1.out J2.out)
        have K2 := Lib.hid (next0 K1.out J2.out)
        have HR2 := Lib.hid (HR1.out.step0 J2.out)
        have O2 := Lib.hid (O1.out.below J2.out)
        have S2 := Lib.hid (S1.out.frame (w' := w22) fun b o hb => J2.out.cell (p := ⟨b, o, none⟩) (okx1 OK0.out (show w.heap.size ≤ w21.heap.size by omega) (show hi ≤ w21.heap.size by omega) b hb))
        refine hK.out _ _ (Hb.out _ X2.out) (fun hHeld => ?_)
        clear hK K'
        (try simp only [List.getElem_toArray, List.getElem_cons_zero, List.getElem_cons_succ, Act.put, List.setIfInBounds_toArray, List.set_cons_zero, List.set_cons_succ])
        refine wpAnyH_ready (rs := [18]) (by kernel_rfl) (by simp) ?_
        refine (AllReadyH.cons rfl (fun K' hK => ?_) AllReadyH.nil)
        refine step_append_lies _ rfl _ _ 32 rfl (R + 1) 67 i0 (.agg #[.bool false, .string ⟨#[]⟩, .slice none 0 0]) 3 48 Tryz.underlying32 hi0 hi1 hi2 hi3 rfl (by decide) (.slice va L.length vc) L.length (KL.flat L) rfl O2.out.1 ⟨w21.heap.size, 0, none⟩ 1 1 [.bool xb, .string un, .slice q7 ul d7] rfl rfl (World.news_of_block HB2.out.choose_spec) (one_L _ _ _ _ _) (by decide) A1 A2 (show R + 1 ≤ w22.heap.size by omega) _ rfl ?_
        intro g9 c9 w9 hown hgrow hat hlt9
        have OL9 := OL.out
        have X9 := Lib.hid (Lt.grown X2.out hgrow (fun k e => Or.inl (Or.inr e)))
        have L9 : Hid (Lt (fun b => (Value.slice va L.length vc).ownBlock = some b) w22 w9) := Lib.hid (Lt.grown (Lt.of (Below.refl _ _)) hgrow (fun k e => Or.inl e))
        have HR9 := Lib.hid (L9.out.has HR2.out (fun e => by have := OL9 _ e; omega))
        have O9 := Lib.hid (OwnX.add (K := KL) (x := ((xb, φ x.2), Value.slice q7 ul d7)) O2.out (AD.out _ _ _ S2.out N7.out) (okx2 OK0.out (show w.heap.size ≤ R by omega) (show R + 1 ≤ lo by omega) (show w.heap.size ≤ w22.heap.size by omega) (show hi ≤ w22.heap.size by omega) (fun k e => by have := OL9 k e; omega)) (AF.out _ _ _ _ hown) L9.out (hat.imp id fun h => Nat.le_of_eq h.symm))
        have hz9 : w22.heap.size ≤ w9.heap.size := L9.out.size
        clear hown hgrow OL9
        refine hK.out _ _ (Hb.out _ X9.out) (fun hHeld => ?_)
        clear hK K'
        (try simp only [List.getElem_toArray, List.getElem_cons_zero, List.getElem_cons_succ, Act.put, List.setIfInBounds_toArray, List.set_cons_zero, List.set_cons_succ])
        refine wpAnyH_take (i := 19) (v := ?_) rfl (by kernel_rfl) (by kernel_rfl) (by kernel_rfl) (fun _ _ _ h => h) (Or.inl ⟨by rfl, ?_⟩) (by assumption) ?_
        rotate_left
        · intro w' hSw; (try dsimp only at hSw); (try simp only [List.getElem_toArray, List.getElem_cons_zero, List.getElem_cons_succ]); go_simp; try with_reducible rfl
        (try simp only [List.getElem_toArray, List.getElem_cons_zero, List.getElem_cons_succ, Act.put, List.setIfInBounds_toArray, List.set_cons_zero, List.set_cons_succ])
        refine wpAnyH_ready (rs := [20]) (by kernel_rfl) (by simp) ?_
        refine (AllReadyH.cons rfl (fun K' hK => ?_) AllReadyH.nil)
        obtain ⟨f1, f2, f3, f4, f5, f6, f7⟩ := UnpP.has3 HR9.out
        go_simp
        (try go_split_ands)
        obtain ⟨w10, hw10⟩ : ∃ z, z = w9.setCell ⟨R, 2, none⟩ (.slice (some ⟨g9, 0, none⟩) (L.length + 1) c9) := ⟨_, rfl⟩
        rw [← hw10]
        have X10 : Hid (Lt (fun b => b = R ∨ (Value.slice va L.length vc).ownBlock = some b) wr w10) := Lib.hid (by rw [hw10]; exact X9.out.put (Or.inl (Or.inl rfl)) _)
        have HR10 : Hid (Has w10 R #[.string hu, .slice q hl d, .slice (some ⟨g9, 0, none⟩) (L.length + 1) c9]) := Lib.hid (by rw [hw10]; exact HR9.out.set 2 _)
        have P10 : Hid (Lt (· = R) w9 w10) := Lib.hid (by rw [hw10]; exact Lt.put (ex := (· = R)) (p := ⟨R, 2, none⟩) (Lt.of (Below.refl _ _)) (Or.inl rfl) _)
        have O10 := Lib.hid (O9.out.lt P10.out (fun i e => by subst e; exact ⟨by omega, fun h => by have := OK0.out _ h; omega⟩))
        have OL10 := OL.out
        have D10 := Lib.hid (next9 K.out X10.out (fun k e => by rcases e with e | e; omega; have := OL10 k e; omega))
        have E10 := Lib.hid (X10.out.has EQ5.out (fun e => by rcases e with e | e; omega; have := OL10 _ e; omega))
        have S10 := Lib.hid (SQ5.out.frame (w' := w10) fun b o hb => X10.out.cell (okx1 OK0.out (show w.heap.size ≤ wr.heap.size by omega) (show R ≤ wr.heap.size by omega) b hb) (fun e => by have h1 := okx1 OK0.out (show w.heap.size ≤ R by omega) (Nat.le_refl R) b hb; rcases e with e | e; omega; have := OL10 _ e; omega))
        clear hw10 f1 f2 f3 f4 f5 f6 f7 OL10
        refine hK.out _ _ (Hb.out _ X10.out) (fun hHeld => ?_)
        clear hK K'
        (try simp only [List.getElem_toArray, List.getElem_cons_zero, List.getElem_cons_succ, Act.put, List.setIfInBounds_toArray, List.set_cons_zero, List.set_cons_succ])
        refine wpAnyH_done (by kernel_rfl) ?_ _
        go_wp2_with fail
        go_roundw
        case rel => exact ⟨k + 1, L ++ [((xb, φ x.2), .slice q7 ul d7)], _, by omega, by go_num, Lib.hid (HM1.out _), O10, HR10, E10, Lib.hid (X10.out.has HX.out (fun e => by rcases e with e | e; omega; have := OL.out _ e; omega)), S10, D10⟩
        case measure => simp [intOf]; omega
      · skip
        go_simp
        (try go_split_ands)
        go_at_call 21
        (with_reducible refine (CR.out _ K0.out).mono ?_)
        rintro e w24 ⟨q7, d7, rfl, s7, n7, k7⟩
        have X4 := Lib.hid (Lt.below X0.out k7)
        have K4 := Lib.hid (next0 K0.out k7)
        have HR4 := Lib.hid (HR0.out.step0 k7)
        have O4 := Lib.hid (O0.out.below k7)
        have hz4 : wz.heap.size ≤ w24.heap.size := k7.size
        obtain ⟨lo, hlo⟩ : ∃ m, m = wz.heap.size := ⟨_, rfl⟩
        obtain ⟨hi, hhi⟩ : ∃ m, m = w24.heap.size := ⟨_, rfl⟩
        rw [← hlo, ← hhi] at s7
        have S4 := Lib.hid s7
        have N7 := Lib.hid n7
        clear s7 n7 k7
        refine hK.out _ _ (Hb.out _ X4.out) (fun hHeld => ?_)
        clear hK K'
        (try simp only [List.getElem_toArray, List.getElem_cons_zero, List.getElem_cons_succ, Act.put, List.setIfInBounds_toArray, List.set_cons_zero, List.set_cons_succ])
        refine wpAnyH_take (i := 16) (v := ?_) rfl (by kernel_rfl) (by kernel_rfl) (by kernel_rfl) (fun _ _ _ h => h) (Or.inl ⟨by rfl, ?_⟩) (by assumption) ?_
        rotate_left
        · intro w' hSw; (try dsimp only at hSw); (try simp only [List.getElem_toArray, List.getElem_cons_zero, List.getElem_cons_succ]); go_simp; try with_reducible rfl
        (try simp only [List.getElem_toArray, List.getElem_cons_zero, List.getElem_cons_succ, Act.put, List.setIfInBounds_toArray, List.set_cons_zero, List.set_cons_succ])
        refine wpAnyH_ready (rs := [1, 17]) (by kernel_rfl) (by simp) ?_
        refine (AllReadyH.cons rfl (fun K' hK => ?_) (AllReadyH.cons rfl (fun K' hK => ?_) AllReadyH.nil))
        · skip
          obtain ⟨f1, f2, f3, f4, f5, f6, f7⟩ := UnpP.has3 HR4.out
          go_simp
          (try go_split_ands)
          clear f1 f2 f3 f4 f5 f6 f7
          refine hK.out _ _ (Hb.out _ X4.out) (fun hHeld => ?_)
          clear hK K'
          (try simp only [List.getElem_toArray, List.getElem_cons_zero, List.getElem_cons_succ, Act.put, List.setIfInBounds_toArray, List.set_cons_zero, List.set_cons_succ])
          refine wpAnyH_ready (rs := [17]) (by kernel_rfl) (by simp) ?_
          refine (AllReadyH.cons rfl (fun K' hK => ?_) AllReadyH.nil)
          go_simp
          (try go_split_ands)
          obtain ⟨w25, hw5⟩ : ∃ z, z = w24.alloc (.cells #[.bool xb, .string un, .slice q7 ul d7] 67) := ⟨_, rfl⟩
          rw [← hw5]
          have J5 : Hid (Below w24.heap.size w24 w25) := Lib.hid (by rw [hw5]; exact below_alloc _ _)
          have HB5 : Hid (Has w25 w24.heap.size #[.bool xb, .string un, .slice q7 ul d7]) := Lib.hid (by rw [hw5]; exact Has.new _ _ _)
          have hz5 : w24.heap.size + 1 ≤ w25.heap.size := by rw [hw5]; simp
          clear hw5
          have X5 := Lib.hid (Lt.below X4.out J5.out)
          have K5 := Lib.hid (next0 K4.out J5.out)
          have HR5 := Lib.hid (HR4.out.step0 J5.out)
          have O5 := Lib.hid (O4.out.below J5.out)
          have S5 := Lib.hid (S4.out.frame (w' := w25) fun b o hb => J5.out.cell (p := ⟨b, o, none⟩) (okx1 OK0.out (show w.heap.size ≤ w24.heap.size by omega) (show hi ≤ w24.heap.size by omega) b hb))
          refine hK.out _ _ (Hb.out _ X5.out) (fun hHeld => ?_)
          clear hK K'
          (try simp only [List.getElem_toArray, List.getElem_cons_zero, List.getElem_cons_succ, Act.put, List.setIfInBounds_toArray, List.set_cons_zero, List.set_cons_succ])
          refine wpAnyH_ready (rs := [18]) (by kernel_rfl) (by simp) ?_
          refine (AllReadyH.cons rfl (fun K' hK => ?_) AllReadyH.nil)
          refine step_append_lies _ rfl _ _ 32 rfl (R + 1) 67 i0 (.agg #[.bool false, .string ⟨#[]⟩, .slice none 0 0]) 3 48 Tryz.underlying32 hi0 hi1 hi2 hi3 rfl (by decide) (.slice va L.length vc) L.length (KL.flat L) rfl O5.out.1 ⟨w24.heap.size, 0, none⟩ 1 1 [.bool xb, .string un, .slice q7 ul d7] rfl rfl (World.news_of_block HB5.out.choose_spec) (one_L _ _ _ _ _) (by decide) A1 A2 (show R + 1 ≤ w25.heap.size by omega) _ rfl ?_
          intro g9 c9 w9 hown hgrow hat hlt9
          have OL9 := OL.out
          have X9 := Lib.hid (Lt.grown X5.out hgrow (fun k e => Or.inl (Or.inr e)))
          have L9 : Hid (Lt (fun b => (Value.slice va L.length vc).ownBlock = some b) w25 w9) := Lib.hid (Lt.grown (Lt.of (Below.refl _ _)) hgrow (fun k e => Or.inl e))
          have HR9 := Lib.hid (L9.out.has HR5.out (fun e => by have := OL9 _ e; omega))
          have O9 := Lib.hid (OwnX.add (K := KL) (x := ((xb, φ x.2), Value.slice q7 ul d7)) O5.out (AD.out _ _ _ S5.out N7.out) (okx2 OK0.out (show w.heap.size ≤ R by omega) (show R + 1 ≤ lo by omega) (show w.heap.size ≤ w25.heap.size by omega) (show hi ≤ w25.heap.size by omega) (fun k e => by have := OL9 k e; omega)) (AF.out _ _ _ _ hown) L9.out (hat.imp id fun h => Nat.le_of_eq h.symm))
          have hz9 : w25.heap.size ≤ w9.heap.size := L9.out.size
          clear hown hgrow OL9
          refine hK.out _ _ (Hb.out _ X9.out) (fun hHeld => ?_)
          clear hK K'
          (try simp only [List.getElem_toArray, List.getElem_cons_zero, List.getElem_cons_succ, Act.put, List.setIfInBounds_toArray, List.set_cons_zero, List.set_cons_succ])
          refine wpAnyH_take (i := 19) (v := ?_) rfl (by kernel_rfl) (by kernel_rfl) (by kernel_rfl) (fun _ _ _ h => h) (Or.inl ⟨by rfl, ?_⟩) (by assumption) ?_
          rotate_left
          · intro w' hSw; (try dsimp only at hSw); (try simp only [List.getElem_toArray, List.getElem_cons_zero, List.getElem_cons_succ]); go_simp; try with_reducible rfl
          (try simp only [List.getElem_toArray, List.getElem_cons_zero, List.getElem_cons_succ, Act.put, List.setIfInBounds_toArray, List.set_cons_zero, List.set_cons_succ])
          refine wpAnyH_ready (rs := [20]) (by kernel_rfl) (by simp) ?_
          refine (AllReadyH.cons rfl (fun K' hK => ?_) AllReadyH.nil)
          obtain ⟨f1, f2, f3, f4, f5, f6, f7⟩ := UnpP.has3 HR9.out
          go_simp
          (try go_split_ands)
          obtain ⟨w10, hw10⟩ : ∃ z, z = w9.setCell ⟨R, 2, none⟩ (.slice (some ⟨g9, 0, none⟩) (L.length + 1) c9) := ⟨_, rfl⟩
          rw [← hw10]
          have X10 : Hid (Lt (fun b => b = R ∨ (Value.slice va L.length vc).ownBlock = some b) wr w10) := Lib.hid (by rw [hw10]; exact X9.out.put (Or.inl (Or.inl rfl)) _)
          have HR10 : Hid (Has w10 R #[.string hu, .slice q hl d, .slice (some ⟨g9, 0, none⟩) (L.length + 1) c9]) := Lib.hid (by rw [hw10]; exact HR9.out.set 2 _)
          have P10 : Hid (Lt (· = R) w9 w10) := Lib.hid (by rw [hw10]; exact Lt.put (ex := (· = R)) (p := ⟨R, 2, none⟩) (Lt.of (Below.refl _ _)) (Or.inl rfl) _)
          have O10 := Lib.hid (O9.out.lt P10.out (fun i e => by subst e; exact ⟨by omega, fun h => by have := OK0.out _ h; omega⟩))
          have OL10 := OL.out
          have D10 := Lib.hid (next9 K.out X10.out (fun k e => by rcases e with e | e; omega; have := OL10 k e; omega))
          have E10 := Lib.hid (X10.out.has EQ5.out (fun e => by rcases e with e | e; omega; have := OL10 _ e; omega))
          have S10 := Lib.hid (SQ5.out.frame (w' := w10) fun b o hb => X10.out.cell (okx1 OK0.out (show w.heap.size ≤ wr.heap.size by omega) (show R ≤ wr.heap.size by omega) b hb) (fun e => by have h1 := okx1 OK0.out (show w.heap.size ≤ R by omega) (Nat.le_refl R) b hb; rcases e with e | e; omega; have := OL10 _ e; omega))
          clear hw10 f1 f2 f3 f4 f5 f6 f7 OL10
          refine hK.out _ _ (Hb.out _ X10.out) (fun hHeld => ?_)
          clear hK K'
          (try simp only [List.getElem_toArray, List.getElem_cons_zero, List.getElem_cons_succ, Act.put, List.setIfInBounds_toArray, List.set_cons_zero, List.set_cons_succ])
          refine wpAnyH_done (by kernel_rfl) ?_ _
          go_wp2_with fail
          go_roundw
          case rel => exact ⟨k + 1, L ++ [((xb, φ x.2), .slice q7 ul d7)], _, by omega, by go_num, Lib.hid (HM1.out _), O10, HR10, E10, Lib.hid (X10.out.has HX.out (fun e => by rcases e with e | e; omega; have := OL.out _ e; omega)), S10, D10⟩
          case measure => simp [intOf]; omega
        · skip
          go_simp
          (try go_split_ands)
          obtain ⟨w27, hw7⟩ : ∃ z, z = w24.alloc (.cells #[.bool xb, .string un, .slice q7 ul d7] 67) := ⟨_, rfl⟩
          rw [← hw7]
          have J7 : Hid (Below w24.heap.size w24 w27) := Lib.hid (by rw [hw7]; exact below_alloc _ _)
          have HB7 : Hid (Has w27 w24.heap.size #[.bool xb, .string un, .slice q7 ul d7]) := Lib.hid (by rw [hw7]; exact Has.new _ _ _)
          have hz7 : w24.heap.size + 1 ≤ w27.heap.size := by rw [hw7]; simp
          clear hw7
          have X7 := Lib.hid (Lt.below X4.out J7.out)
          have K7 := Lib.hid (next0 K4.out J7.out)
          have HR7 := Lib.hid (HR4.out.step0 J7.out)
          have O7 := Lib.hid (O4.out.below J7.out)
          have S7 := Lib.hid (S4.out.frame (w' := w27) fun b o hb => J7.out.cell (p := ⟨b, o, none⟩) (okx1 OK0.out (show w.heap.size ≤ w24.heap.size by omega) (show hi ≤ w24.heap.size by omega) b hb))
          refine hK.out _ _ (Hb.out _ X7.out) (fun hHeld => ?_)
          clear hK K'
          (try simp only [List.getElem_toArray, List.getElem_cons_zero, List.getElem_cons_succ, Act.put, List.setIfInBounds_toArray, List.set_cons_zero, List.set_cons_succ])
          refine wpAnyH_ready (rs := [1]) (by kernel_rfl) (by simp) ?_
          refine (AllReadyH.cons rfl (fun K' hK => ?_) AllReadyH.nil)
          obtain ⟨f1, f2, f3, f4, f5, f6, f7⟩ := UnpP.has3 HR7.out
          go_simp
          (try go_split_ands)
          clear f1 f2 f3 f4 f5 f6 f7
          refine hK.out _ _ (Hb.out _ X7.out) (fun hHeld => ?_)
          clear hK K'
          (try simp only [List.getElem_toArray, List.getElem_cons_zero, List.getElem_cons_succ, Act.put, List.setIfInBounds_toArray, List.set_cons_zero, List.set_cons_succ])
          refine wpAnyH_ready (rs := [18]) (by kernel_rfl) (by simp) ?_
          refine (AllReadyH.cons rfl (fun K' hK => ?_) AllReadyH.nil)
          refine step_append_lies _ rfl _ _ 32 rfl (R + 1) 67 i0 (.agg #[.bool false, .string ⟨#[]⟩, .slice none 0 0]) 3 48 Tryz.underlying32 hi0 hi1 hi2 hi3 rfl (by decide) (.slice va L.length vc) L.length (KL.flat L) rfl O7.out.1 ⟨w24.heap.size, 0, none⟩ 1 1 [.bool xb, .string un, .slice q7 ul d7] rfl rfl (World.news_of_block HB7.out.choose_spec) (one_L _ _ _ _ _) (by decide) A1 A2 (show R + 1 ≤ w27.heap.size by omega) _ rfl ?_
          intro g9 c9 w9 hown hgrow hat hlt9
          have OL9 := OL.out
          have X9 := Lib.hid (Lt.grown X7.out hgrow (fun k e => Or.inl (Or.inr e)))
          have L9 : Hid (Lt (fun b => (Value.slice va L.length vc).ownBlock = some b) w27 w9) := Lib.hid (Lt.grown (Lt.of (Below.refl _ _)) hgrow (fun k e => Or.inl e))
          have HR9 := Lib.hid (L9.out.has HR7.out (fun e => by have := OL9 _ e; omega))
          have O9 := Lib.hid (OwnX.add (K := KL) (x := ((xb, φ x.2), Value.slice q7 ul d7)) O7.out (AD.out _ _ _ S7.out N7.out) (okx2 OK0.out (show w.heap.size ≤ R by omega) (show R + 1 ≤ lo by omega) (show w.heap.size ≤ w27.heap.size by omega) (show hi ≤ w27.heap.size by omega) (fun k e => by have := OL9 k e; omega)) (AF.out _ _ _ _ hown) L9.out (hat.imp id fun h => Nat.le_of_eq h.symm))
          have hz9 : w27.heap.size ≤ w9.heap.size := L9.out.size
          clear hown hgrow OL9
          refine hK.out _ _ (Hb.out _ X9.out) (fun hHeld => ?_)
          clear hK K'
          (try simp only [List.getElem_toArray, List.getElem_cons_zero, List.getElem_cons_succ, Act.put, List.setIfInBounds_toArray, List.set_cons_zero, List.set_cons_succ])
          refine wpAnyH_take (i := 19) (v := ?_) rfl (by kernel_rfl) (by kernel_rfl) (by kernel_rfl) (fun _ _ _ h => h) (Or.inl ⟨by rfl, ?_⟩) (by assumption) ?_
          rotate_left
          · intro w' hSw; (try dsimp only at hSw); (try simp only [List.getElem_toArray, List.getElem_cons_zero, List.getElem_cons_succ]); go_simp; try with_reducible rfl
          (try simp only [List.getElem_toArray, List.getElem_cons_zero, List.getElem_cons_succ, Act.put, List.setIfInBounds_toArray, List.set_cons_zero, List.set_cons_succ])
          refine wpAnyH_ready (rs := [20]) (by kernel_rfl) (by simp) ?_
          refine (AllReadyH.cons rfl (fun K' hK => ?_) AllReadyH.nil)
          obtain ⟨f1, f2, f3, f4, f5, f6, f7⟩ := UnpP.has3 HR9.out
          go_simp
          (try go_split_ands)
          obtain ⟨w10, hw10⟩ : ∃ z, z = w9.setCell ⟨R, 2, none⟩ (.slice (some ⟨g9, 0, none⟩) (L.length + 1) c9) := ⟨_, rfl⟩
          rw [← hw10]
          have X10 : Hid (Lt (fun b => b = R ∨ (Value.slice va L.length vc).ownBlock = some b) wr w10) := Lib.hid (by rw [hw10]; exact X9.out.put (Or.inl (Or.inl rfl)) _)
          have HR10 : Hid (Has w10 R #[.string hu, .slice q hl d, .slice (some ⟨g9, 0, none⟩) (L.length + 1) c9]) := Lib.hid (by rw [hw10]; exact HR9.out.set 2 _)
          have P10 : Hid (Lt (· = R) w9 w10) := Lib.hid (by rw [hw10]; exact Lt.put (ex := (· = R)) (p := ⟨R, 2, none⟩) (Lt.of (Below.refl _ _)) (Or.inl rfl) _)
          have O10 := Lib.hid (O9.out.lt P10.out (fun i e => by subst e; exact ⟨by omega, fun h => by have := OK0.out _ h; omega⟩))
          have OL10 := OL.out
          have D10 := Lib.hid (next9 K.out X10.out (fun k e => by rcases e with e | e; omega; have := OL10 k e; omega))
          have E10 := Lib.hid (X10.out.has EQ5.out (fun e => by rcases e with e | e; omega; have := OL10 _ e; omega))
          have S10 := Lib.hid (SQ5.out.frame (w' := w10) fun b o hb => X10.out.cell (okx1 OK0.out (show w.heap.size ≤ wr.heap.size by omega) (show R ≤ wr.heap.size by omega) b hb) (fun e => by have h1 := okx1 OK0.out (show w.heap.size ≤ R by omega) (Nat.le_refl R) b hb; rcases e with e | e; omega; have := OL10 _ e; omega))
          clear hw10 f1 f2 f3 f4 f5 f6 f7 OL10
          refine hK.out _ _ (Hb.out _ X10.out) (fun hHeld => ?_)
          clear hK K'
          (try simp only [List.getElem_toArray, List.getElem_cons_zero, List.getElem_cons_succ, Act.put, List.setIfInBounds_toArray, List.set_cons_zero, List.set_cons_succ])
          refine wpAnyH_done (by kernel_rfl) ?_ _
          go_wp2_with fail
          go_roundw
          case rel => exact ⟨k + 1, L ++ [((xb, φ x.2), .slice q7 ul d7)], _, by omega, by go_num, Lib.hid (HM1.out _), O10, HR10, E10, Lib.hid (X10.out.has HX.out (fun e => by rcases e with e | e; omega; have := OL.out _ e; omega)), S10, D10⟩
          case measure => simp [intOf]; omega
    · obtain rfl : k = n := by omega
      have MM : Hid (L.map (·.1) = atomsL φ l) := Lib.hid (by rw [hM.out, AE.out])
      have RW := hO.out.row
      have LI : Hid (LIn (fun b => ok0 b ∨ (R + 1 ≤ b ∧ b < wr.heap.size)) wr (atomsL φ l) (.slice va L.length vc)) := Lib.hid ⟨L, MM.out, RW⟩
      obtain ⟨f1, f2, f3, f4, f5, f6, f7⟩ := UnpP.has3 hRb.out
      obtain ⟨g1, g2, g3, g4, g5, g6, g7⟩ := UnpP.has3 hE.out
      obtain ⟨W9, hW9⟩ : ∃ z, z = ((wr.setCell ⟨w.heap.size + 1, 0, none⟩ (.string hu)).setCell ⟨w.heap.size + 1, 1, none⟩ (.slice q hl d)).setCell ⟨w.heap.size + 1, 2, none⟩ (.slice va L.length vc) := ⟨_, rfl⟩
      have R6 := put3 hE.out (.string hu) (.slice q hl d) (.slice va L.length vc)
      obtain ⟨r1, r2, r3⟩ := UniA.three R6
      have P9 : Hid (Lt (· = w.heap.size + 1) wr W9) := Lib.hid (by rw [hW9]; exact Lt.put (ex := (· = w.heap.size + 1)) (p := ⟨w.heap.size + 1, 2, none⟩) (Lt.put (ex := (· = w.heap.size + 1)) (p := ⟨w.heap.size + 1, 1, none⟩) (Lt.put (ex := (· = w.heap.size + 1)) (p := ⟨w.heap.size + 1, 0, none⟩) (Lt.of (Below.refl _ _)) (Or.inl rfl) _) (Or.inl rfl) _) (Or.inl rfl) _)
      have D9 := Lib.hid (next9 hD.out P9.out (fun i e => by subst e; omega))
      have hz9 := P9.out.size
      have S9 := Lib.hid (hS.out.frame (w' := W9) fun b o hb => P9.out.cell (okx1 OK0.out hD.out.size (show R ≤ wr.heap.size by omega) b hb) (fun e => by rcases hb with hb | hb; have := OK0.out b hb; omega; omega))
      have L9 := Lib.hid (LI.out.keep (w' := W9) fun b o hb => P9.out.cell (okx1 OK0.out hD.out.size (Nat.le_refl _) b hb) (fun e => by rcases hb with hb | hb; have := OK0.out b hb; omega; omega))
      have X9 : Hid (RuX ok0 u (atomsL φ l) w (.returned (.agg #[.string hu, .slice q hl d, .slice va L.length vc])) W9) := Lib.hid ⟨q, d, _, by rw [HHU.out, HHL.out], by rw [HHL.out]; exact S9.out.weaken fun b hb => hb.imp id fun h => ⟨by omega, by omega⟩, L9.out.wide fun b hb => hb.imp id fun h => ⟨by omega, by omega⟩, by rw [HHU.out]; exact NU.out, D9.out⟩
      have HW9 := Lib.hid hW9
      clear R6 RW LI MM S9 L9 P9 D9 hz9 hW9
      go_wp2_with fail
      refine bodyPost_ret (v := .agg #[.string hu, .slice q hl d, .slice va L.length vc]) (by simp [results, Tryz.results24, go_sem, r1, r2, r3]) rfl ?_
      rw [← HW9.out]
      exact X9.out
end UnrJ
end Go.Proofs.YtihbnonbhelbmaaGreatDoor
/- Renaming as plain data: what the code's map and the reference's bindings do is the same. No conditions. -/
namespace Go.Proofs.YtihbnonbhelbmaaGreatDoor
open Go
namespace UnrK
open LexM TermM TermE UniM UniD UniE UnmA UnmH UnmI UnrF
/-- The bindings of the first k variables to new names. -/
def bnK (f : Nat → ByteArray) (vs : List ByteArray) : Nat → List Bd
  | 0 => []
  | k + 1 => match vs[k]? with
    | some v => bnK f vs k ++ [(v, .mk (f k) [])]
    | none => bnK f vs k
theorem bn_next {f : Nat → ByteArray} {vs : List ByteArray} {k : Nat} {v : ByteArray} (h : vs[k]? = some v) : bnK f vs (k + 1) = bnK f vs k ++ [(v, .mk (f k) [])] := by
  simp [bnK, h]
theorem bn_len {f : Nat → ByteArray} {vs : List ByteArray} : ∀ k, k ≤ vs.length → (bnK f vs k).length = k
  | 0, _ => rfl
  | k + 1, h => by
    have hv : vs[k]? = some (vs[k]'(by omega)) := by simp
    rw [bn_next hv, List.length_append, bn_len k (by omega)]
    rfl
theorem bn_mem {f : Nat → ByteArray} {vs : List ByteArray} : ∀ {k : Nat} {b : Bd}, b ∈ bnK f vs k → ∃ j, j < k ∧ vs[j]? = some b.1 ∧ b.2 = .mk (f j) []
  | 0, b, h => by simp [bnK] at h
  | k + 1, b, h => by
    unfold bnK at h
    cases hv : vs[k]? with
    | none =>
      rw [hv] at h
      obtain ⟨j, h1, h2⟩ := bn_mem h
      exact ⟨j, by omega, h2⟩
    | some v =>
      rw [hv] at h
      rcases List.mem_append.1 h with h | h
      · obtain ⟨j, h1, h2⟩ := bn_mem h
        exact ⟨j, by omega, h2⟩
      · obtain rfl := List.mem_singleton.1 h
        exact ⟨k, by omega, hv, rfl⟩
theorem add_nodup {M : List ByteArray} {s : ByteArray} (h : M.Nodup) : (addV M s).Nodup := by
  unfold addV
  split
  · rename_i hs
    rw [List.nodup_append]
    refine ⟨h, List.nodup_cons.2 ⟨by simp, List.nodup_nil⟩, fun a ha b hb e => ?_⟩
    obtain rfl := List.mem_singleton.1 hb
    subst e
    have := has_mem ha
    rw [hs.2] at this
    cases this
  · exact h
theorem fold_nodup : ∀ (ys M : List ByteArray), M.Nodup → (ys.foldl addV M).Nodup
  | [], _, h => h
  | a :: r, M, h => fold_nodup r (addV M a) (add_nodup h)
theorem vars_nodup (xs : List ByteArray) : (varsOf xs).Nodup := fold_nodup xs [] List.nodup_nil
theorem nodup_at {vs : List ByteArray} (h : vs.Nodup) {j k : Nat} {v : ByteArray} (hj : vs[j]? = some v) (hk : vs[k]? = some v) (hlt : j < k) : False := by
  obtain ⟨a1, a2⟩ := List.getElem?_eq_some_iff.1 hj
  obtain ⟨b1, b2⟩ := List.getElem?_eq_some_iff.1 hk
  exact List.pairwise_iff_getElem.1 h j k a1 b1 hlt (a2.trans b2.symm)
theorem look_app (L : List Bd) (v n : ByteArray) (t : Tm) : lookS (L ++ [(v, t)]) n = match lookS L n with
    | some u => some u
    | none => if eqB v n then some t else none := by
  unfold lookS
  rw [List.find?_append]
  cases h : L.find? (fun b => eqB b.1 n) with
  | some u => simp
  | none =>
    by_cases e : eqB v n = true
    · simp [e]
    · simp [e]
theorem look_both (f : Nat → ByteArray) (vs : List ByteArray) (hnd : vs.Nodup) (n : ByteArray) : ∀ k, k ≤ vs.length → lookS (bnK f vs k) n = (lookK (namesK f vs k) n.data.toList).map fun s => .mk s []
  | 0, _ => by simp [bnK, namesK, lookS, lookK]
  | k + 1, h => by
    have hv : vs[k]? = some (vs[k]'(by omega)) := by simp
    have ih := look_both f vs hnd n k (by omega)
    generalize vs[k]'(by omega) = v at hv
    rw [bn_next hv, look_app]
    have e : namesK f vs (k + 1) = (v.data.toList, f k) :: namesK f vs k := by simp [namesK, hv]
    rw [e, lookK_cons]
    by_cases hq : v.data.toList = n.data.toList
    · have hvn : v = n := bytes_inj hq
      have hno : lookS (bnK f vs k) n = none := by
        unfold lookS
        rw [List.find?_eq_none.2 (fun b hb he => by
          obtain ⟨j, h1, h2, _⟩ := bn_mem hb
          rw [eqB_iff.1 he, ← hvn] at h2
          exact nodup_at hnd h2 hv h1)]
        rfl
      have hb : eqB v n = true := eqB_iff.2 hvn
      rw [hno, if_pos hq]
      simp [hb]
    · have hb : eqB v n = false := by
        rw [Bool.eq_false_iff]
        intro h
        exact hq (by rw [eqB_iff.1 h])
      rw [if_neg hq, ← ih]
      cases lookS (bnK f vs k) n <;> simp [hb]
theorem ren_app (f : Nat → ByteArray) (vs : List ByteArray) (hnd : vs.Nodup) : repT (renT (namesK f vs vs.length)) = appT (bnK f vs vs.length) := by
  funext t
  rw [← rep_app]
  congr 1
  funext n
  have := look_both f vs hnd n vs.length (Nat.le_refl _)
  unfold leafS renT
  rw [this]
  cases lookK (namesK f vs vs.length) n.data.toList <;> rfl
/-- Either all new names are variables, or there is a first one that is none. -/
theorem first_bad (p : Nat → Bool) : ∀ m, (∀ k, k < m → p k = true) ∨ ∃ k0, k0 < m ∧ (∀ k, k < k0 → p k = true) ∧ p k0 = false
  | 0 => Or.inl fun k h => absurd h (Nat.not_lt_zero _)
  | m + 1 => by
    rcases first_bad p m with h | ⟨k0, h1, h2, h3⟩
    · cases hp : p m
      · exact Or.inr ⟨m, by omega, h, hp⟩
      · refine Or.inl fun k hk => ?_
        by_cases e : k = m
        · rw [e]; exact hp
        · exact h k (by omega)
    · exact Or.inr ⟨k0, by omega, h2, h3⟩
end UnrK
end Go.Proofs.YtihbnonbhelbmaaGreatDoor
/- The reference's Rename of any rule. Conditions: at most a thousand literals, a million parts; a prefix of at most a thousand bytes. Made by genrenref.py. -/
namespace Go.Proofs.YtihbnonbhelbmaaGreatDoor
open Go Go.RowKit
namespace UnrL
open LexM TermM TermI Kit TermN TermU TermL TermE TermF UniK UniM UniA UniC UniD UniE UniG UniR UniJ UnmA UnmB UnmC UnmD UnmE UnmF UnmG UnmH UnmI LigG LigU LigY UnqA UnqB UnrA UnrB UnrC UnrF UnrG UnrK
theorem new_size (pre : ByteArray) (k : Nat) (hp : pre.size ≤ 1000) (hk : k ≤ 1000000) : (newName pre k).size ≤ 2000 := by
  have h9 := Lib.itoa_length_le ((k : Int) + 1) (by omega) (by omega)
  rw [itoa_pos k] at h9
  have h8 : (⟨(Lib.decDigits (k + 1)).toArray⟩ : ByteArray).size = (Lib.decDigits (k + 1)).length := by simp [ByteArray.size]
  unfold newName
  rw [ByteArray.size_append, h8]
  omega
theorem vars_size {xs : List ByteArray} {v : ByteArray} (h : v ∈ varsOf xs) : v.size ≤ 16 := var_ok (vars_var v h)
theorem ownq_below {base : Nat} {w w' : World} {L : List (Bd × Value)} {v : Value} (h : OwnQ base w L v) (g : Below w.heap.size w w') (hb : base ≤ w.heap.size) : OwnQ base w' L v :=
  ⟨own_below h.1 g, fun x hx => KB.keep (h.2 x hx) fun b o hlt => g.cell (p := ⟨b, o, none⟩) (Nat.lt_of_lt_of_le hlt hb)⟩
set_option maxRecDepth 100000 in
set_option maxHeartbeats 3200000 in
theorem rrename_yes (h : Tm) (l : List Lt) (pre : ByteArray) (w : World) (hv lv : Value) (hs : SlIn (· < w.heap.size) w h.args hv) (hl0 : LIn (· < w.heap.size) w l lv) (hn : h.nm.size ≤ maxLen) (hll : l.length ≤ 1000) (hz : sizeL (atsL h l) ≤ 1000000) (hp : pre.size ≤ 1000)
    (hl : (varsOf (leavesL (atsL h l))).length ≤ 1000000) (hN : ∀ k, k < (varsOf (leavesL (atsL h l))).length → varB (newName pre k) = true) :
    Calls Tryz.prog 34 #[.agg #[.string h.nm, hv, lv], .string pre] w ((RnX (appT (bnK (newName pre) (varsOf (leavesL (atsL h l))) (varsOf (leavesL (atsL h l))).length) h) (atomsL (appT (bnK (newName pre) (varsOf (leavesL (atsL h l))) (varsOf (leavesL (atsL h l))).length)) l) w)) := by
  obtain ⟨i0, hi, hz0, hz1, hz2⟩ := info_parts infoB
  obtain ⟨p, c, rfl⟩ := hs.form
  obtain ⟨lp, lc, rfl⟩ := hl0.form
  obtain ⟨W2, hW2⟩ : ∃ W2, W2 = (w.alloc (.cells #[.string h.nm, .slice p h.args.length c, .slice lp l.length lc] 34)).alloc (.cells #[.string ⟨#[]⟩, .slice none 0 0, .slice none 0 0] 34) := ⟨_, rfl⟩
  have B2 : Hid (Below w.heap.size w W2) := Lib.hid (by rw [hW2]; exact next0 (below_alloc _ _) (below_alloc _ _))
  have H2 : Hid (Has W2 w.heap.size #[.string h.nm, .slice p h.args.length c, .slice lp l.length lc]) := Lib.hid (by rw [hW2]; exact (Has.new w _ _).alloc _)
  have E2 : Hid (Has W2 (w.heap.size + 1) #[.string ⟨#[]⟩, .slice none 0 0, .slice none 0 0]) := Lib.hid (by rw [hW2]; exact Has.new1 w _ _ _)
  have hs2 : w.heap.size + 2 ≤ W2.heap.size := by rw [hW2]; simp
  have LW := Lib.hid (fun w' (k : Below w.heap.size w w') => (hl0.keep (w' := w') fun b o hb => k.cell (p := ⟨b, o, none⟩) hb).wide (ok' := (· < w'.heap.size)) fun b hb => Nat.lt_of_lt_of_le hb k.size)
  have SW := Lib.hid (fun w' (k : Below w.heap.size w w') => (hs.deep k (Nat.le_refl _)).weaken (ok' := (· < w'.heap.size)) fun b hb => Nat.lt_of_lt_of_le hb k.size)
  have CV := Lib.hid (rvars_rule h l W2 _ _ (SW.out W2 B2.out) (LW.out W2 B2.out) hn hll hz)
  have CB := Lib.hid (fun s (hF : ∀ b ∈ s, b.2.args = []) (hV : ∀ b ∈ s, varB b.1 = true) w' sv (k : Below w.heap.size w w') (hss : SIn (· < w'.heap.size) w' s sv) => UnrJ.rar_any0 s hF hV h l w' sv _ _ hss (SW.out w' k) (LW.out w' k) hn hll (size_at (Or.inl rfl) hz) (fun x hx => size_at (Or.inr ⟨x, hx, rfl⟩) hz))
  unfold Vrs at CV
  have VV := Lib.hid (fun v (h9 : v ∈ varsOf (leavesL (atsL h l))) => vars_var v h9)
  have VS := Lib.hid (fun v (h9 : v ∈ varsOf (leavesL (atsL h l))) => vars_size h9)
  clear hs hn hz hl0 LW SW
  generalize varsOf (leavesL (atsL h l)) = vs at *
  generalize hm : vs.length = m at *
  have HM := Lib.hid hm
  have BN := Lib.hid (fun k v (h : vs[k]? = some v) => bn_next (f := newName pre) h)
  have BL := Lib.hid (fun k (h : k ≤ m) => bn_len (f := newName pre) (vs := vs) k (by rw [hm]; exact h))
  have BF : Hid (∀ b ∈ bnK (newName pre) vs m, b.2.args = []) := Lib.hid (fun b hb => by obtain ⟨j, _, _, h3⟩ := bn_mem hb; rw [h3]; rfl)
  have BV : Hid (∀ b ∈ bnK (newName pre) vs m, varB b.1 = true) := Lib.hid (fun b hb => by obtain ⟨j, _, h2, _⟩ := bn_mem hb; exact VV.out _ (List.mem_of_getElem? h2))
  have NS := Lib.hid (fun k (hk : k ≤ m) => new_size pre k hp (by omega))
  have VN := Lib.hid hN
  clear hm hN
  have hmb : m ≤ 1000000 := hl
  have CB1 := Lib.hid (CB.out (bnK (newName pre) vs m) BF.out BV.out)
  clear CB BF BV
  have B00 : Hid (([] : List (Bd × Value)).map (·.1) = bnK (newName pre) vs 0) := Lib.hid rfl
  generalize hBN : bnK (newName pre) vs = BNL at *
  clear hBN
  generalize appT (BNL m) h = u at *
  generalize atomsL (appT (BNL m)) l = ul at *
  unfold RuX at CB1
  generalize l.length = ln at *
  generalize h.nm = hnm at *
  generalize h.args.length = hl9 at *
  have k1 := H2.out.cell 0
  obtain ⟨y1, y2, y3⟩ := UniA.three H2.out
  go_enter Tryz.func34, Tryz.ntmps34
  go_upto_region 1 with fail
  rw [← hW2]
  clear hW2 k1
  go_wp2_with fail
  refine CV.out.mono ?_
  rintro e w4 ⟨v4, base4, rfl, h1, h2, h3⟩
  obtain ⟨a9, c9, rfl⟩ := row_form h1
  have O4 := Lib.hid h1
  have D4 := Lib.hid (next0 B2.out h3)
  have H4 := Lib.hid (H2.out.step0 h3)
  have E4 := Lib.hid (E2.out.step0 h3)
  have hs4 : W2.heap.size ≤ w4.heap.size := h3.size
  clear h1 h3 y1 y2 y3 CV
  go_wp2_with fail
  go_loopw [7, 8] (fun u7 i wr => ∃ (k : Nat) (L : List (Bd × Value)), k ≤ m ∧ i = .int .i64 k ∧ Hid (L.map (·.1) = BNL k) ∧ Hid (OwnQ w4.heap.size wr L u7) ∧ Hid (Below w4.heap.size w4 wr)) (fun _ i _ => m - (intOf i).toNat)
  case atStart => exact ⟨0, [], Nat.zero_le _, rfl, B00, Lib.hid (OwnQ.nil _ _), Lib.hid (Below.refl _ _)⟩
  case round =>
    obtain ⟨k, L, hk, rfl, hP, hO, hD⟩ := hrel
    obtain ⟨va, vc, rfl⟩ := hO.out.form
    by_cases hlt : k < m
    · obtain ⟨v0, hv0⟩ : ∃ v0, vs[k]? = some v0 := ⟨vs[k]'(by rw [HM.out]; omega), by simp⟩
      have OR : wr.ownsRow base4 9 1 (.slice a9 m c9) vs.length (strs vs) := by
        rw [HM.out]
        exact own_below O4.out hD.out
      obtain ⟨g, cap, hav, hcell, hgb, hgl⟩ := row_str OR hv0
      injection hav with hav1 hav3 hav2
      subst hav1 hav2
      clear hav3
      have CI : Hid (∀ w', Calls Tryz.prog 66 #[.int .i64 ((k : Int) + 1)] w' fun e w'' => e = .returned (.string ⟨(Lib.decDigits (k + 1)).toArray⟩) ∧ Below w'.heap.size w' w'') := Lib.hid (fun w' => UnrE.decimal_any (k + 1) (by omega) w')
      have hvn : (newName pre k).size ≤ 2000 := NS.out k (by omega)
      have KV := Lib.hid (fun w' => TermC.rvar_any (newName pre k) w' (by omega))
      have KB9 : Hid (varL (newName pre k).data.toList = true) := Lib.hid (VN.out k hlt)
      rw [KB9.out] at KV
      have hvl9 : v0.size ≤ maxLen := by have := VS.out v0 (List.mem_of_getElem? hv0); unfold maxLen; omega
      have hnl9 : (newName pre k).size ≤ maxLen := by unfold maxLen; omega
      have HNX := Lib.hid (BN.out k v0 hv0)
      have XI := Lib.hid (fun w' => show KB.inn (· < w4.heap.size) w' ((v0, .mk (newName pre k) []), .slice none 0 0) from ⟨SlIn.none _ _, hnl9, hvl9⟩)
      have hLn : L.length = k := by
        have := congrArg List.length hP.out
        rw [List.length_map, BL.out k (by omega)] at this
        exact this
      have A1 := UniR.bd3 (n := L.length) (by omega)
      have A2 := UniR.bd4 (n := L.length) (by omega)
      clear hv0 OR KB9 hLn
      have HNN : Hid (newName pre k = pre ++ ⟨(Lib.decDigits (k + 1)).toArray⟩) := Lib.hid rfl
      rw [HNN.out, ByteArray.size_append] at hvn
      rw [HNN.out] at KV
      generalize (⟨(Lib.decDigits (k + 1)).toArray⟩ : ByteArray) = dg at *
      have hv1 : pre.size ≤ 2000 := by omega
      have hv2 : dg.size ≤ 2000 := by omega
      have hw4r : w4.heap.size ≤ wr.heap.size := hD.out.size
      go_wp2_with fail
      refine (CI.out _).mono ?_
      rintro e w5 ⟨rfl, k5⟩
      have hO5 := Lib.hid (ownq_below hO.out k5 hw4r)
      have hD5 := Lib.hid (next0 hD.out k5)
      have c7 := (k5.cell (p := ⟨g, k, none⟩) hgl).trans hcell
      have hw5 : w4.heap.size ≤ w5.heap.size := hD5.out.size
      clear k5 hO hD hcell hgl
      go_wp2_with fail
      refine (KV.out _).mono ?_
      rintro e w5' ⟨rfl, rfl⟩
      have A4 : w4.heap.size ≤ (w5.alloc (.cells #[.string v0, .string (pre ++ dg), .slice none 0 0] 52)).heap.size := by simp; omega
      go_wp2_with (at_builtin; refine wpList_append_lies _ rfl _ _ 22 rfl w4.heap.size 52 i0 zB 3 56 Tryz.underlying22 hi hz0 hz1 hz2 rfl (by decide) (.slice va L.length vc) L.length (KB.flat L) rfl (hO5.out.1.alloc _) ⟨w5.heap.size, 0, none⟩ 1 1 [.string v0, .string (pre ++ dg), .slice none 0 0] rfl rfl (newsK _ _ _ _ _) (one_B _ _ _ _ _) (by decide) A1 A2 A4 (w5.heap.size + 1) (by simp) ?_; intro g6 cap6 w6 hown hgrow hat hlt6)
      rw [← HNN.out] at hown
      obtain ⟨O6, B6⟩ := OwnQ.add (x := ((v0, .mk (newName pre k) []), .slice none 0 0)) hO5.out hw5 (XI.out w5) hown hgrow
      have O6 := Lib.hid O6
      have D6 : Hid (Below w4.heap.size w4 w6) := Lib.hid (hD5.out.trans B6)
      have P6 : Hid ((L ++ [((v0, Tm.mk (newName pre k) []), Value.slice none 0 0)]).map (·.1) = BNL (k + 1)) := Lib.hid (by rw [List.map_append, hP.out, HNX.out]; rfl)
      clear hown hgrow hat B6
      go_wp2_with fail
      go_roundw
      case rel => (repeat (refine Exists.intro _ ?_)); first | exact ⟨k + 1, _, by omega, by go_num, P6, O6, D6⟩ | (refine ⟨?_, rfl⟩; exact ⟨k + 1, _, by omega, by go_num, P6, O6, D6⟩)
      case measure => simp [intOf]; omega
    · obtain rfl : k = m := by omega
      have SI := Lib.hid (hO.out.sin hD.out.size)
      rw [hP.out] at SI
      have D5 := Lib.hid (next0 D4.out hD.out)
      have CB2 := Lib.hid (CB1.out wr _ D5.out SI.out)
      have H5 := Lib.hid (H4.out.step0 hD.out)
      have E5 := Lib.hid (E4.out.step0 hD.out)
      obtain ⟨y1, y2, y3⟩ := UniA.three H5.out
      have hsr : w4.heap.size ≤ wr.heap.size := hD.out.size
      clear CB1 hP hO SI
      go_wp2_with fail
      (with_reducible refine CB2.out.mono ?_)
      rintro e w7 ⟨q, d, v7, rfl, hS, hL, hnu, k7⟩
      obtain ⟨v7p, v7c, rfl⟩ := hL.form
      have D7 := Lib.hid (next0 D5.out k7)
      have E7 := Lib.hid (E5.out.step0 k7)
      have S7 := Lib.hid (hS.weaken (ok' := fun b => wr.heap.size ≤ b ∧ b < w7.heap.size) (fun b hb => hb.resolve_left id))
      have L7 := Lib.hid (hL.wide (ok' := fun b => wr.heap.size ≤ b ∧ b < w7.heap.size) (fun b hb => hb.resolve_left id))
      have NU := Lib.hid hnu
      clear y1 y2 y3 hS hL hnu k7 CB2
      generalize hlz : ul.length = lz at *
      have HLZ := Lib.hid hlz
      clear hlz
      obtain ⟨z1, z2, z3⟩ := UniA.three E7.out
      have f1 := E7.out.free 0
      have f2 := E7.out.free 1
      have f3 := E7.out.free 2
      have R8 := put3 E7.out (.string u.nm) (.slice q u.args.length d) (.slice v7p lz v7c)
      obtain ⟨r1, r2, r3⟩ := UniA.three R8
      have D8 := Lib.hid (((D7.out.setCell (p := ⟨w.heap.size + 1, 0, none⟩) (by simp) (.string u.nm)).setCell (p := ⟨w.heap.size + 1, 1, none⟩) (by simp) (.slice q u.args.length d)).setCell (p := ⟨w.heap.size + 1, 2, none⟩) (by simp) (.slice v7p lz v7c))
      have FR : ∀ b o, wr.heap.size ≤ b ∧ b < w7.heap.size → (((w7.setCell ⟨w.heap.size + 1, 0, none⟩ (.string u.nm)).setCell ⟨w.heap.size + 1, 1, none⟩ (.slice q u.args.length d)).setCell ⟨w.heap.size + 1, 2, none⟩ (.slice v7p lz v7c)).cell? ⟨b, o, none⟩ = w7.cell? ⟨b, o, none⟩ := fun b o hb => by
        rw [cell_far (by show b ≠ w.heap.size + 1; omega), cell_far (by show b ≠ w.heap.size + 1; omega), cell_far (by show b ≠ w.heap.size + 1; omega)]
      have S8 := Lib.hid (S7.out.frame FR)
      have L8 := Lib.hid (L7.out.keep FR)
      clear R8 E7 D7 S7 L7 FR
      go_wp2_with fail
      refine bodyPost_ret (v := .tuple #[.agg #[.string u.nm, .slice q u.args.length d, .slice v7p lz v7c], .bool true]) (by simp [results, Tryz.results34, go_sem, r1, r2, r3]) rfl ?_
      unfold RnX
      exact ⟨q, d, _, rfl, S8.out.weaken (fun b hb => ⟨by omega, by simpa [World.setCell] using hb.2⟩), L8.out.wide (fun b hb => ⟨by omega, by simpa [World.setCell] using hb.2⟩), NU.out, D8.out⟩
set_option maxRecDepth 100000 in
set_option maxHeartbeats 3200000 in
theorem rrename_no (h : Tm) (l : List Lt) (pre : ByteArray) (k0 : Nat) (hk0 : k0 < (varsOf (leavesL (atsL h l))).length) (hN0 : varB (newName pre k0) = false) (w : World) (hv lv : Value) (hs : SlIn (· < w.heap.size) w h.args hv) (hl0 : LIn (· < w.heap.size) w l lv) (hn : h.nm.size ≤ maxLen) (hll : l.length ≤ 1000) (hz : sizeL (atsL h l) ≤ 1000000) (hp : pre.size ≤ 1000)
    (hl : (varsOf (leavesL (atsL h l))).length ≤ 1000000) (hN : ∀ k, k < k0 → varB (newName pre k) = true) :
    Calls Tryz.prog 34 #[.agg #[.string h.nm, hv, lv], .string pre] w (fun e w' => e = .returned (.tuple #[.agg #[.string ⟨#[]⟩, .slice none 0 0, .slice none 0 0], .bool false]) ∧ Below w.heap.size w w') := by
  obtain ⟨i0, hi, hz0, hz1, hz2⟩ := info_parts infoB
  obtain ⟨p, c, rfl⟩ := hs.form
  obtain ⟨lp, lc, rfl⟩ := hl0.form
  obtain ⟨W2, hW2⟩ : ∃ W2, W2 = (w.alloc (.cells #[.string h.nm, .slice p h.args.length c, .slice lp l.length lc] 34)).alloc (.cells #[.string ⟨#[]⟩, .slice none 0 0, .slice none 0 0] 34) := ⟨_, rfl⟩
  have B2 : Hid (Below w.heap.size w W2) := Lib.hid (by rw [hW2]; exact next0 (below_alloc _ _) (below_alloc _ _))
  have H2 : Hid (Has W2 w.heap.size #[.string h.nm, .slice p h.args.length c, .slice lp l.length lc]) := Lib.hid (by rw [hW2]; exact (Has.new w _ _).alloc _)
  have E2 : Hid (Has W2 (w.heap.size + 1) #[.string ⟨#[]⟩, .slice none 0 0, .slice none 0 0]) := Lib.hid (by rw [hW2]; exact Has.new1 w _ _ _)
  have hs2 : w.heap.size + 2 ≤ W2.heap.size := by rw [hW2]; simp
  have LW := Lib.hid (fun w' (k : Below w.heap.size w w') => (hl0.keep (w' := w') fun b o hb => k.cell (p := ⟨b, o, none⟩) hb).wide (ok' := (· < w'.heap.size)) fun b hb => Nat.lt_of_lt_of_le hb k.size)
  have SW := Lib.hid (fun w' (k : Below w.heap.size w w') => (hs.deep k (Nat.le_refl _)).weaken (ok' := (· < w'.heap.size)) fun b hb => Nat.lt_of_lt_of_le hb k.size)
  have CV := Lib.hid (rvars_rule h l W2 _ _ (SW.out W2 B2.out) (LW.out W2 B2.out) hn hll hz)
  unfold Vrs at CV
  have VV := Lib.hid (fun v (h9 : v ∈ varsOf (leavesL (atsL h l))) => vars_var v h9)
  have VS := Lib.hid (fun v (h9 : v ∈ varsOf (leavesL (atsL h l))) => vars_size h9)
  clear hs hn hz hl0 LW SW
  generalize varsOf (leavesL (atsL h l)) = vs at *
  generalize hm : vs.length = m at *
  have HM := Lib.hid hm
  have BN := Lib.hid (fun k v (h : vs[k]? = some v) => bn_next (f := newName pre) h)
  have BL := Lib.hid (fun k (h : k ≤ m) => bn_len (f := newName pre) (vs := vs) k (by rw [hm]; exact h))
  have NS := Lib.hid (fun k (hk : k ≤ m) => new_size pre k hp (by omega))
  have VN := Lib.hid hN
  have VN0 := Lib.hid hN0
  clear hm hN hN0
  have hmb : m ≤ 1000000 := hl
  have B00 : Hid (([] : List (Bd × Value)).map (·.1) = bnK (newName pre) vs 0) := Lib.hid rfl
  generalize hBN : bnK (newName pre) vs = BNL at *
  clear hBN
  generalize l.length = ln at *
  generalize h.nm = hnm at *
  generalize h.args.length = hl9 at *
  have k1 := H2.out.cell 0
  obtain ⟨y1, y2, y3⟩ := UniA.three H2.out
  go_enter Tryz.func34, Tryz.ntmps34
  go_upto_region 1 with fail
  rw [← hW2]
  clear hW2 k1
  go_wp2_with fail
  refine CV.out.mono ?_
  rintro e w4 ⟨v4, base4, rfl, h1, h2, h3⟩
  obtain ⟨a9, c9, rfl⟩ := row_form h1
  have O4 := Lib.hid h1
  have D4 := Lib.hid (next0 B2.out h3)
  have H4 := Lib.hid (H2.out.step0 h3)
  have E4 := Lib.hid (E2.out.step0 h3)
  have hs4 : W2.heap.size ≤ w4.heap.size := h3.size
  clear h1 h3 y1 y2 y3 CV
  go_wp2_with fail
  go_loopw [7, 8] (fun u7 i wr => ∃ (k : Nat) (L : List (Bd × Value)), k ≤ k0 ∧ i = .int .i64 k ∧ Hid (L.map (·.1) = BNL k) ∧ Hid (OwnQ w4.heap.size wr L u7) ∧ Hid (Below w4.heap.size w4 wr)) (fun _ i _ => k0 - (intOf i).toNat)
  case atStart => exact ⟨0, [], Nat.zero_le _, rfl, B00, Lib.hid (OwnQ.nil _ _), Lib.hid (Below.refl _ _)⟩
  case round =>
    obtain ⟨k, L, hk, rfl, hP, hO, hD⟩ := hrel
    obtain ⟨va, vc, rfl⟩ := hO.out.form
    by_cases hlt : k < k0
    · obtain ⟨v0, hv0⟩ : ∃ v0, vs[k]? = some v0 := ⟨vs[k]'(by rw [HM.out]; omega), by simp⟩
      have OR : wr.ownsRow base4 9 1 (.slice a9 m c9) vs.length (strs vs) := by
        rw [HM.out]
        exact own_below O4.out hD.out
      obtain ⟨g, cap, hav, hcell, hgb, hgl⟩ := row_str OR hv0
      injection hav with hav1 hav3 hav2
      subst hav1 hav2
      clear hav3
      have CI : Hid (∀ w', Calls Tryz.prog 66 #[.int .i64 ((k : Int) + 1)] w' fun e w'' => e = .returned (.string ⟨(Lib.decDigits (k + 1)).toArray⟩) ∧ Below w'.heap.size w' w'') := Lib.hid (fun w' => UnrE.decimal_any (k + 1) (by omega) w')
      have hvn : (newName pre k).size ≤ 2000 := NS.out k (by omega)
      have KV := Lib.hid (fun w' => TermC.rvar_any (newName pre k) w' (by omega))
      have KB9 : Hid (varL (newName pre k).data.toList = true) := Lib.hid (VN.out k hlt)
      rw [KB9.out] at KV
      have hvl9 : v0.size ≤ maxLen := by have := VS.out v0 (List.mem_of_getElem? hv0); unfold maxLen; omega
      have hnl9 : (newName pre k).size ≤ maxLen := by unfold maxLen; omega
      have HNX := Lib.hid (BN.out k v0 hv0)
      have XI := Lib.hid (fun w' => show KB.inn (· < w4.heap.size) w' ((v0, .mk (newName pre k) []), .slice none 0 0) from ⟨SlIn.none _ _, hnl9, hvl9⟩)
      have hLn : L.length = k := by
        have := congrArg List.length hP.out
        rw [List.length_map, BL.out k (by omega)] at this
        exact this
      have A1 := UniR.bd3 (n := L.length) (by omega)
      have A2 := UniR.bd4 (n := L.length) (by omega)
      clear hv0 OR KB9 hLn
      have HNN : Hid (newName pre k = pre ++ ⟨(Lib.decDigits (k + 1)).toArray⟩) := Lib.hid rfl
      rw [HNN.out, ByteArray.size_append] at hvn
      rw [HNN.out] at KV
      generalize (⟨(Lib.decDigits (k + 1)).toArray⟩ : ByteArray) = dg at *
      have hv1 : pre.size ≤ 2000 := by omega
      have hv2 : dg.size ≤ 2000 := by omega
      have hw4r : w4.heap.size ≤ wr.heap.size := hD.out.size
      go_wp2_with fail
      refine (CI.out _).mono ?_
      rintro e w5 ⟨rfl, k5⟩
      have hO5 := Lib.hid (ownq_below hO.out k5 hw4r)
      have hD5 := Lib.hid (next0 hD.out k5)
      have c7 := (k5.cell (p := ⟨g, k, none⟩) hgl).trans hcell
      have hw5 : w4.heap.size ≤ w5.heap.size := hD5.out.size
      clear k5 hO hD hcell hgl
      go_wp2_with fail
      refine (KV.out _).mono ?_
      rintro e w5' ⟨rfl, rfl⟩
      have A4 : w4.heap.size ≤ (w5.alloc (.cells #[.string v0, .string (pre ++ dg), .slice none 0 0] 52)).heap.size := by simp; omega
      go_wp2_with (at_builtin; refine wpList_append_lies _ rfl _ _ 22 rfl w4.heap.size 52 i0 zB 3 56 Tryz.underlying22 hi hz0 hz1 hz2 rfl (by decide) (.slice va L.length vc) L.length (KB.flat L) rfl (hO5.out.1.alloc _) ⟨w5.heap.size, 0, none⟩ 1 1 [.string v0, .string (pre ++ dg), .slice none 0 0] rfl rfl (newsK _ _ _ _ _) (one_B _ _ _ _ _) (by decide) A1 A2 A4 (w5.heap.size + 1) (by simp) ?_; intro g6 cap6 w6 hown hgrow hat hlt6)
      rw [← HNN.out] at hown
      obtain ⟨O6, B6⟩ := OwnQ.add (x := ((v0, .mk (newName pre k) []), .slice none 0 0)) hO5.out hw5 (XI.out w5) hown hgrow
      have O6 := Lib.hid O6
      have D6 : Hid (Below w4.heap.size w4 w6) := Lib.hid (hD5.out.trans B6)
      have P6 : Hid ((L ++ [((v0, Tm.mk (newName pre k) []), Value.slice none 0 0)]).map (·.1) = BNL (k + 1)) := Lib.hid (by rw [List.map_append, hP.out, HNX.out]; rfl)
      clear hown hgrow hat B6
      go_wp2_with fail
      go_roundw
      case rel => (repeat (refine Exists.intro _ ?_)); first | exact ⟨k + 1, _, by omega, by go_num, P6, O6, D6⟩ | (refine ⟨?_, rfl⟩; exact ⟨k + 1, _, by omega, by go_num, P6, O6, D6⟩)
      case measure => simp [intOf]; omega
    · obtain rfl : k = k0 := by omega
      obtain ⟨v0, hv0⟩ : ∃ v0, vs[k]? = some v0 := ⟨vs[k]'(by rw [HM.out]; omega), by simp⟩
      have OR : wr.ownsRow base4 9 1 (.slice a9 m c9) vs.length (strs vs) := by
        rw [HM.out]
        exact own_below O4.out hD.out
      obtain ⟨g, cap, hav, hcell, hgb, hgl⟩ := row_str OR hv0
      injection hav with hav1 hav3 hav2
      subst hav1 hav2
      clear hav3
      have CI : Hid (∀ w', Calls Tryz.prog 66 #[.int .i64 ((k : Int) + 1)] w' fun e w'' => e = .returned (.string ⟨(Lib.decDigits (k + 1)).toArray⟩) ∧ Below w'.heap.size w' w'') := Lib.hid (fun w' => UnrE.decimal_any (k + 1) (by omega) w')
      have hvn : (newName pre k).size ≤ 2000 := NS.out k (by omega)
      have KV := Lib.hid (fun w' => TermC.rvar_any (newName pre k) w' (by omega))
      have KB9 : Hid (varL (newName pre k).data.toList = false) := Lib.hid (VN0.out)
      rw [KB9.out] at KV
      have hvl9 : v0.size ≤ maxLen := by have := VS.out v0 (List.mem_of_getElem? hv0); unfold maxLen; omega
      have hnl9 : (newName pre k).size ≤ maxLen := by unfold maxLen; omega
      have HNX := Lib.hid (BN.out k v0 hv0)
      have XI := Lib.hid (fun w' => show KB.inn (· < w4.heap.size) w' ((v0, .mk (newName pre k) []), .slice none 0 0) from ⟨SlIn.none _ _, hnl9, hvl9⟩)
      have hLn : L.length = k := by
        have := congrArg List.length hP.out
        rw [List.length_map, BL.out k (by omega)] at this
        exact this
      have A1 := UniR.bd3 (n := L.length) (by omega)
      have A2 := UniR.bd4 (n := L.length) (by omega)
      clear hv0 OR KB9 hLn
      have HNN : Hid (newName pre k = pre ++ ⟨(Lib.decDigits (k + 1)).toArray⟩) := Lib.hid rfl
      rw [HNN.out, ByteArray.size_append] at hvn
      rw [HNN.out] at KV
      generalize (⟨(Lib.decDigits (k + 1)).toArray⟩ : ByteArray) = dg at *
      have hv1 : pre.size ≤ 2000 := by omega
      have hv2 : dg.size ≤ 2000 := by omega
      have hw4r : w4.heap.size ≤ wr.heap.size := hD.out.size
      go_wp2_with fail
      refine (CI.out _).mono ?_
      rintro e w5 ⟨rfl, k5⟩
      have hO5 := Lib.hid (ownq_below hO.out k5 hw4r)
      have hD5 := Lib.hid (next0 hD.out k5)
      have c7 := (k5.cell (p := ⟨g, k, none⟩) hgl).trans hcell
      have hw5 : w4.heap.size ≤ w5.heap.size := hD5.out.size
      clear k5 hO hD hcell hgl
      go_wp2_with fail
      refine (KV.out _).mono ?_
      rintro e w5' ⟨rfl, rfl⟩
      have E5 := Lib.hid (E4.out.step0 hD5.out)
      have D5 := Lib.hid (next0 D4.out hD5.out)
      obtain ⟨z1, z2, z3⟩ := UniA.three E5.out
      have f1 := E5.out.free 0
      have f2 := E5.out.free 1
      have f3 := E5.out.free 2
      have R8 := put3 E5.out (.string ⟨#[]⟩) (.slice none 0 0) (.slice none 0 0)
      obtain ⟨r1, r2, r3⟩ := UniA.three R8
      have D8 := Lib.hid (((D5.out.setCell (p := ⟨w.heap.size + 1, 0, none⟩) (by simp) (.string ⟨#[]⟩)).setCell (p := ⟨w.heap.size + 1, 1, none⟩) (by simp) (.slice none 0 0)).setCell (p := ⟨w.heap.size + 1, 2, none⟩) (by simp) (.slice none 0 0))
      clear R8 E5 D5
      go_wp2_with fail
      refine bodyPost_ret (v := .tuple #[.agg #[.string ⟨#[]⟩, .slice none 0 0, .slice none 0 0], .bool false]) (by simp [results, Tryz.results34, go_sem, r1, r2, r3]) rfl ?_
      exact ⟨rfl, D8.out⟩
end UnrL
end Go.Proofs.YtihbnonbhelbmaaGreatDoor
/- strconv's table of powers of ten out of the listed variables. No conditions. -/
namespace Go.Proofs.YtihbnonbhelbmaaGreatDoor
open Go Go.RowKit Go.ChangeShapes Go.WideShapes Go.ChangeAt
namespace UnrN
theorem gTab : Tryz.prog.globalNamed "internal/strconv.uint64pow10" = some 1 := by kernel_rfl
theorem table_gen {W : World} (h : laidMetH Tryz.prog UnnA.list W) : UnrB.Tab W := by
  have h1 : laidMet Tryz.prog UnnA.list W := h
  have h2 := laidMet.filter (fun x => x.1 == "internal/strconv.uint64pow10") h1
  have h3 : laidMet Tryz.prog [("internal/strconv.uint64pow10", Lib.tabData .u64 Lib.pow10Tab)] W := h2
  exact Lib.tabIs_of_head (rest := []) (t := 160) (e := 131) (n := 20) gTab (by kernel_rfl) (by kernel_rfl) (by kernel_rfl) (by kernel_rfl) (by kernel_rfl) h3
end UnrN
end Go.Proofs.YtihbnonbhelbmaaGreatDoor
