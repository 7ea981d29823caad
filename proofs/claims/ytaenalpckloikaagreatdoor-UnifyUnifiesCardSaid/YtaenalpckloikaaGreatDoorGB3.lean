/- Texts laid together: UnuH; UnuI; UnuJ; UnuK. Their own heads stand before each. -/
import Derived.Test.YtaenalpckloikaaGreatDoorGB2
import Derived.Test.YtaenalpckloikaaGreatDoorGA11
import Derived.Test.YtaenalpckloikaaGreatDoorGA1
import Derived.Test.YtaenalpckloikaaGreatDoorGA12
import Derived.Deep.RegionLaw
import Derived.Deep.RegionWith
import Derived.Deep.DeepCutAuto
/- The reference's occurs and bind. Conditions: valid terms; at most a thousand bindings. -/
namespace Go.Proofs.YtaenalpckloikaaGreatDoor
open Go Go.RowKit
namespace UnuH
open LexM TermM TermI Kit TermN TermU UniK UniM UniA UniC UniD UniE UniG UniH UniJ UniO UniL UniR UniY UnuA UnuE UnuF UnuG
theorem occ_var (v : ByteArray) {n : ByteArray} (h : varB n = true) : occB v (.mk n []) = eqB n v := by simp [occB, leavesT, h]
theorem occ_fun (v : ByteArray) {n : ByteArray} {l : List Tm} (h : isV (.mk n l) = false) : occB v (.mk n l) = l.any (occB v) := by
  cases l with
  | nil =>
    have hn : varB n = false := by
      cases hn : varB n
      · rfl
      · rw [isv_mk hn] at h; cases h
    simp [occB, leavesT, hn]
  | cons a r =>
    unfold occB
    rw [leaves_fun n (by simp)]
    have : ∀ l : List Tm, (leavesL l).any (fun n => varB n && eqB n v) = l.any fun t => (leavesT t).any fun n => varB n && eqB n v := by
      intro l
      induction l with
      | nil => rfl
      | cons x l ih => rw [leavesL, List.any_append, List.any_cons, ih]
    exact this _
theorem any_take {p : Tm → Bool} {l : List Tm} {k : Nat} {x : Tm} (h : l[k]? = some x) : (l.take (k + 1)).any p = ((l.take k).any p || p x) := by
  rw [take_get l k x h, List.any_append]
  simp
theorem any_hit {p : Tm → Bool} {l : List Tm} {k : Nat} {x : Tm} (h : l[k]? = some x) (hp : p x = true) : l.any p = true :=
  List.any_eq_true.2 ⟨x, List.mem_of_getElem? h, hp⟩
set_option maxRecDepth 100000 in
set_option maxHeartbeats 3200000 in
theorem occ_any (v : ByteArray) (t : Tm) : ∀ (B : Nat) (w : World) (tv : Value), B ≤ w.heap.size → SlIn (· < B) w t.args tv → t.nm.size ≤ maxLen →
    Calls Tryz.prog 123 #[.string v, .agg #[.string t.nm, tv]] w fun e w' => e = .returned (.bool (occB v t)) ∧ Gr w w' := by
  induction t using Tm.ind with
  | h n l ih =>
    intro B w tv hB ht htn
    dsimp only [Tm.args, Tm.nm] at ht htn ⊢
    obtain ⟨p1, c1, rfl, _, hlc, hcm, hTR⟩ := ht.row
    have h63 : l.length ≤ 9223372036854775807 := by unfold maxLen at hcm; omega
    clear hlc hcm
    obtain ⟨W2, hW2⟩ : ∃ W2, W2 = w.alloc (.cells #[.string n, .slice p1 l.length c1] 27) := ⟨_, rfl⟩
    have G2 : Hid (Gr w W2) := Lib.hid (by rw [hW2]; exact Gr.alloc _ _)
    have H2 : Hid (Has W2 w.heap.size #[.string n, .slice p1 l.length c1]) := Lib.hid (by rw [hW2]; exact Has.new _ _ _)
    have CV := Lib.hid (fun w' => rvar_t (.mk n l) p1 c1 w' htn)
    have IH : Hid (∀ x ∈ l, ∀ (w' : World) (v1 : Value), Below w.heap.size w w' → SlIn (· < B) w' x.args v1 → x.nm.size ≤ maxLen → Calls Tryz.prog 123 #[.string v, .agg #[.string x.nm, v1]] w' fun e w'' => e = .returned (.bool (occB v x)) ∧ Gr w' w'') :=
      Lib.hid (fun x hx w' v1 k h1 h2 => ih x hx B w' v1 (Nat.le_trans hB k.size) h1 h2)
    have HTR := Lib.hid hTR
    have HB := Lib.hid hB
    obtain ⟨y1, y2, y3, y4, y5⟩ := H2.out.two
    clear ih ht htn hTR hB
    dsimp only [Tm.nm, Tm.args] at CV
    cases hv : isV (.mk n l)
    · have EO : Hid (occB v (.mk n l) = l.any (occB v)) := Lib.hid (occ_fun v hv)
      rw [hv] at CV
      clear hv
      rw [EO.out]
      have AT := Lib.hid (fun k x (h : l[k]? = some x) => any_take (p := occB v) h)
      have AH := Lib.hid (fun k x (h : l[k]? = some x) hp => any_hit (p := occB v) h hp)
      have AE : Hid ((l.take l.length).any (occB v) = l.any (occB v)) := Lib.hid (by rw [List.take_length])
      clear EO
      generalize hla : l.length = a at *
      have HLA := Lib.hid hla
      clear hla
      go_enter Tryz.func123, Tryz.ntmps123
      go_upto_region 1 with fail
      rw [← hW2]
      clear hW2
      go_wp2_with fail
      refine (CV.out _).mono ?_
      rintro e w3 ⟨rfl, g3⟩
      have G3 := Lib.hid (G2.out.trans g3)
      have H3 := Lib.hid (H2.out.step0 g3.1)
      clear g3 G2 H2 CV y1 y2 y3 y4 y5
      obtain ⟨y1, y2, y3, y4, y5⟩ := H3.out.two
      go_wp2_with fail
      clear y1 y2 y3 y4 y5
      go_loopw [5] (fun i wr => ∃ (k : Nat), k ≤ a ∧ i = .int .i64 k ∧ Hid ((l.take k).any (occB v) = false) ∧ Hid (Gr w3 wr)) (fun i _ => a - (intOf i).toNat)
      case atStart => exact ⟨0, Nat.zero_le _, rfl, Lib.hid (by simp), Lib.hid (Gr.refl _)⟩
      case round =>
        obtain ⟨k, hk, rfl, hA, hG⟩ := hrel
        obtain ⟨y1, y2, y3, y4, y5⟩ := (H3.out.step0 hG.out.1).two
        have D5 := Lib.hid (next0 G3.out.1 hG.out.1)
        by_cases hlt : k < a
        · obtain ⟨x, b, o, q, d, hx, rfl, hb, e1, e2, hxs, hxn⟩ := (Row.deep HTR.out D5.out HB.out) k (by rw [HLA.out]; exact hlt)
          have CI := Lib.hid (IH.out x (List.mem_of_getElem? hx) wr _ D5.out hxs hxn)
          have A1 := Lib.hid (AT.out k x hx)
          have A2 := Lib.hid (AH.out k x hx)
          clear hx hxs hxn
          generalize occB v x = z at *
          generalize x.nm = xn at *
          generalize x.args.length = xa at *
          go_wp2_with fail
          refine CI.out.mono ?_
          rintro e w4 ⟨rfl, g4⟩
          have G4 := Lib.hid (hG.out.trans g4)
          clear g4 CI
          cases z
          · go_wp2_with fail
            go_roundw
            case rel => exact ⟨k + 1, by omega, by go_num, Lib.hid (by rw [A1.out, hA.out]; rfl), G4⟩
            case measure => simp [intOf]; omega
          · have E := A2.out rfl
            go_wp2_with fail
            go_ret
            exact ⟨by rw [E]; rfl, G3.out.trans G4.out⟩
        · obtain rfl : k = a := by omega
          have E : l.any (occB v) = false := by rw [← AE.out]; exact hA.out
          go_wp2_with fail
          go_ret
          exact ⟨by rw [E]; rfl, G3.out.trans hG.out⟩
    · obtain ⟨rfl, hn⟩ := isv_nil hv
      rw [hv] at CV
      rw [occ_var v hn]
      obtain ⟨z, hz⟩ : ∃ z, (n.toList == v.toList) = z := ⟨_, rfl⟩
      have HZ : eqB n v = z := by unfold eqB; rw [← hz, ByteArray.toList_eq, ByteArray.toList_eq]
      rw [HZ]
      clear hv hn HZ IH HTR
      dsimp only [List.length_nil] at *
      go_enter Tryz.func123, Tryz.ntmps123
      go_upto_region 1 with fail
      rw [← hW2]
      clear hW2
      go_wp2_with fail
      refine (CV.out _).mono ?_
      rintro e w3 ⟨rfl, g3⟩
      have G3 := Lib.hid (G2.out.trans g3)
      have H3 := Lib.hid (H2.out.step0 g3.1)
      clear g3 G2 H2 CV y1 y2 y3 y4 y5
      obtain ⟨y1, y2, y3, y4, y5⟩ := H3.out.two
      go_wp2_with fail
      go_ret
      exact ⟨rfl, G3.out⟩
/-- A row of the call's own, of bindings whose terms lie anywhere but in it. -/
def OwnH (base : Nat) (w : World) (L : List (Bd × Value)) (v : Value) : Prop :=
  w.ownsRow base 52 3 v L.length (KB.flat L) ∧ ∃ ok : Nat → Prop, (∀ b, ok b → b < w.heap.size ∧ v.ownBlock ≠ some b) ∧ ∀ x ∈ L, KB.inn ok w x
theorem OwnH.nil (base : Nat) (w : World) : OwnH base w [] (.slice none 0 0) :=
  ⟨⟨rfl, Or.inl ⟨rfl, rfl⟩⟩, fun _ => False, fun b h => h.elim, fun x h => by simp at h⟩
theorem OwnH.form {base : Nat} {w : World} {L : List (Bd × Value)} {v : Value} (h : OwnH base w L v) : ∃ a c, v = .slice a L.length c := by
  rcases h.1.2 with ⟨e, hz⟩ | ⟨g, cap, cur, e, _⟩
  · exact ⟨none, 0, by rw [e, hz]⟩
  · exact ⟨_, cap, e⟩
theorem OwnH.below {base : Nat} {w w' : World} {L : List (Bd × Value)} {v : Value} (h : OwnH base w L v) (g : Below w.heap.size w w') : OwnH base w' L v := by
  obtain ⟨h1, ok, h2, h3⟩ := h
  have hl := h1.lt
  refine ⟨⟨h1.1, ?_⟩, ok, fun b hk => ⟨Nat.lt_of_lt_of_le (h2 b hk).1 g.size, (h2 b hk).2⟩, fun x hx => KB.keep (h3 x hx) fun b o hk => g.cell (p := ⟨b, o, none⟩) (h2 b hk).1⟩
  rcases h1.2 with h | ⟨k, cap, cur, e1, e2, e3, e4⟩
  · exact Or.inl h
  · exact Or.inr ⟨k, cap, cur, e1, e2, (g.block k (hl k (by rw [e1]; rfl)).2).trans e3, e4⟩
theorem OwnH.drewN {base : Nat} {w : World} {L : List (Bd × Value)} {v : Value} (h : OwnH base w L v) (n : Nat) : OwnH base (w.drewN n) L v := by
  obtain ⟨h1, ok, h2, h3⟩ := h
  exact ⟨⟨h1.1, h1.2⟩, ok, h2, fun x hx => KB.keep (h3 x hx) fun _ _ _ => rfl⟩
theorem OwnH.add {base : Nat} {w2 w3 : World} {L : List (Bd × Value)} {v : Value} {o : Obj} {lo g cap : Nat} {x : Bd × Value} (h : OwnH base w2 L v) (hs : KB.inn (fun b => b < base ∨ (lo ≤ b ∧ b < w2.heap.size)) w2 x) (hbs : base ≤ w2.heap.size) (hv : ∀ k, v.ownBlock = some k → k < lo)
    (hown : w3.ownsRow base 52 3 (.slice (some ⟨g, 0, none⟩) (L.length + 1) cap) (L.length + 1) (KB.flat L ++ KB.cells x)) (hgrow : (w2.alloc o).grownBy w3 v.ownBlock) (hat : v.ownBlock = some g ∨ g = w2.heap.size + 1) :
    OwnH base w3 (L ++ [x]) (.slice (some ⟨g, 0, none⟩) (L.length + 1) cap) := by
  obtain ⟨h1, ok, h2, h3⟩ := h
  have hsz : w2.heap.size + 1 ≤ w3.heap.size := by have := hgrow.size; simpa using this
  have hb0 : ∀ k, v.ownBlock = some k → base ≤ k := fun k hk => (h1.lt k hk).1
  have fr : ∀ b o, b < w2.heap.size → v.ownBlock ≠ some b → w3.cell? ⟨b, o, none⟩ = w2.cell? ⟨b, o, none⟩ := fun b o hb hne => by
    refine World.cell?_of_block (w := w2) (a := ⟨b, o, none⟩) ?_
    exact (hgrow.block b (by simp; omega) (fun e => hne e.symm)).trans (Below.heap_alloc _ _ _ hb)
  have new : ∀ b, b < base ∨ (lo ≤ b ∧ b < w2.heap.size) → b < w2.heap.size ∧ v.ownBlock ≠ some b := fun b hk => by
    refine ⟨by omega, fun e => ?_⟩
    have := hv b e
    have := hb0 b e
    omega
  refine ⟨by rw [List.length_append, flat_app, flat_one]; exact hown, fun b => ok b ∨ (b < base ∨ (lo ≤ b ∧ b < w2.heap.size)), fun b hk => ?_, fun y hy => ?_⟩
  · have hb2 : b < w2.heap.size ∧ v.ownBlock ≠ some b := by
      rcases hk with hk | hk
      · exact h2 b hk
      · exact new b hk
    refine ⟨by omega, fun e => ?_⟩
    have e' : g = b := by simpa [Value.ownBlock] using e
    rcases hat with h | h
    · exact hb2.2 (by rw [h, e'])
    · omega
  · rcases List.mem_append.1 hy with hy | hy
    · exact KB.wide (KB.keep (h3 y hy) fun b o hk => fr b o (h2 b hk).1 (h2 b hk).2) fun b hk => Or.inl hk
    · obtain rfl := List.mem_singleton.1 hy
      exact KB.wide (KB.keep hs fun b o hk => fr b o (new b hk).1 (new b hk).2) fun b hk => Or.inr hk
theorem OwnH.sin {base : Nat} {w : World} {L : List (Bd × Value)} {v : Value} (h : OwnH base w L v) : SIn (· < w.heap.size) w (L.map (·.1)) v := by
  obtain ⟨h1, ok, h2, h3⟩ := h
  have hl := h1.lt
  have h3' : ∀ x ∈ L, KB.inn (· < w.heap.size) w x := fun x hx => KB.wide (h3 x hx) fun b hk => (h2 b hk).1
  refine ⟨L, rfl, ?_⟩
  rcases h1.2 with ⟨e, hz⟩ | ⟨g, cap, cur, e, e2, e3, e4, e5, _⟩
  · exact ⟨none, 0, by rw [e, hz], by omega, Nat.zero_le _, h3', fun h => by omega⟩
  · subst e
    refine ⟨_, cap, rfl, e4, e5, h3', fun _ => ⟨g, 0, rfl, (hl g rfl).2, fun i x hx j u hu => ?_⟩⟩
    have hi := (List.getElem?_eq_some_iff.1 hx).1
    have hj := (List.getElem?_eq_some_iff.1 hu).1
    rw [KB.len] at hj
    rw [show 0 + i * 3 + j = i * 3 + j by omega]
    exact (h1.cellAt _ (by omega)).trans (flat_get L i x hx j u hu)
end UnuH
end Go.Proofs.YtaenalpckloikaaGreatDoor
/- The reference's bind. Conditions: valid terms; at most a thousand bindings. -/
namespace Go.Proofs.YtaenalpckloikaaGreatDoor
open Go Go.RowKit
namespace UnuI
open LexM TermM TermI Kit TermN TermU UniK UniM UniA UniC UniD UniE UniG UniH UniJ UniO UniL UniR UnuA UnuE UnuF UnuG UnuH
theorem bind_t1 {s : List Bd} {v : ByteArray} {t : Tm} (h : occB v t = true) : bindR s v t = none := by unfold bindR; rw [h]; rfl
theorem bind_t2 {s : List Bd} {v : ByteArray} {t : Tm} (h : 4 < depthT t) : bindR s v t = none := by unfold bindR; rw [show deepB t = true by simp [deepB, h], Bool.or_true]; rfl
theorem bind_t3 {s : List Bd} {v : ByteArray} {t : Tm} (h : (s.any fun x => deepB (appT (oneS v t) x.2)) = true) : bindR s v t = none := by unfold bindR; split <;> simp_all
theorem bind_t4 {s : List Bd} {v : ByteArray} {t : Tm} (h1 : occB v t = false) (h2 : ¬ 4 < depthT t) (h3 : (s.any fun x => deepB (appT (oneS v t) x.2)) = false) : bindR s v t = some (putS (v, t) (s.map fun x => (x.1, appT (oneS v t) x.2))) := by
  unfold bindR
  rw [h1, show deepB t = false by simp [deepB, h2], h3]
  rfl
theorem sin_has {ok : Nat → Prop} {w : World} {g : Nat} (L : List (Bd × Value)) (hH : Has w g (KB.flat L).toArray) (hI : ∀ x ∈ L, KB.inn ok w x) (hg : ok g) (hl : L.length ≤ maxLen) : SIn ok w (L.map (·.1)) (.slice (some ⟨g, 0, none⟩) L.length L.length) := by
  refine ⟨L, rfl, some ⟨g, 0, none⟩, L.length, rfl, Nat.le_refl _, hl, hI, fun _ => ⟨g, 0, rfl, hg, fun i x hx j u hu => ?_⟩⟩
  rw [Nat.zero_add, hH.cell]
  have := flat_get (K := KB) L i x hx j u hu
  simpa using this
theorem anyb_take {p : Bd → Bool} {l : List Bd} {k : Nat} {x : Bd} (h : l[k]? = some x) : (l.take (k + 1)).any p = ((l.take k).any p || p x) := by
  rw [take_get l k x h, List.any_append]
  simp
set_option maxRecDepth 100000 in
set_option maxHeartbeats 1600000 in
theorem rbind_any (s : List Bd) (v : ByteArray) (t : Tm) (hv : varB v = true) (ht8 : validT false 8 t = true) (hs4 : ∀ x ∈ s, validT false 4 x.2 = true) (hl : s.length ≤ 1000) (B : Nat) (w : World) (sv : Value) (p2 : Option Addr) (c2 : Nat) (hB : B ≤ w.heap.size) (hs : SIn (· < B) w s sv) (ht : SlIn (· < B) w t.args (.slice p2 t.args.length c2)) (hvn : v.size ≤ maxLen) (htn : t.nm.size ≤ maxLen) :
    Calls Tryz.prog 89 #[sv, .string v, .agg #[.string t.nm, .slice p2 t.args.length c2]] w (BndR (bindR s v t) w) := by
  obtain ⟨i0, hi, hz0, hz1, hz2⟩ := info_parts infoB
  obtain ⟨p1, c1, rfl, hc, hm, hR⟩ := SIn.row hs
  obtain ⟨W2, hW2⟩ : ∃ W2, W2 = w.alloc (.cells #[.string t.nm, .slice p2 t.args.length c2] 27) := ⟨_, rfl⟩
  have B2 : Hid (Below w.heap.size w W2) := Lib.hid (by rw [hW2]; exact below_alloc _ _)
  have T2 : Hid (Has W2 w.heap.size #[.string t.nm, .slice p2 t.args.length c2]) := Lib.hid (by rw [hW2]; exact Has.new _ _ _)
  have CO := Lib.hid (fun w' (k : Below w.heap.size w w') => occ_any v t B w' _ (Nat.le_trans hB k.size) (ht.deep k hB) htn)
  have CD := Lib.hid (fun w' (k : Below w.heap.size w w') => rdepth_any t B w' _ (Nat.le_trans hB k.size) (ht.deep k hB) (by have := size_8 ht8; omega))
  have H4 := Lib.hid (fun (h : ¬ 4 < depthT t) => valid_at ht8 (show depthT t ≤ 4 by omega))
  have HT := Lib.hid (fun w' (k : Below w.heap.size w w') => ht.deep k hB)
  have HSN := Lib.hid (And.intro hvn htn)
  have HS4 := Lib.hid hs4
  have HV := Lib.hid hv
  have HR := Lib.hid hR
  have HB := Lib.hid hB
  have BT1 := Lib.hid (fun h => bind_t1 (s := s) (v := v) (t := t) h)
  have BT2 := Lib.hid (fun h => bind_t2 (s := s) (v := v) (t := t) h)
  have BT3 := Lib.hid (fun h => bind_t3 (s := s) (v := v) (t := t) h)
  have BT4 := Lib.hid (fun h1 h2 h3 => bind_t4 (s := s) (v := v) (t := t) h1 h2 h3)
  generalize hzo : occB v t = zo at *
  generalize hdt : depthT t = dt at *
  have HN : Hid (t.nm = t.nm) := Lib.hid rfl
  clear hzo hdt hs ht hR hc hm hs4 hv hvn htn ht8 hB
  generalize hln : s.length = n at *
  have HLN := Lib.hid hln
  clear hln
  obtain ⟨y1, y2, y3, y4, y5⟩ := T2.out.two
  go_enter Tryz.func89, Tryz.ntmps89
  go_upto_region 1 with fail
  rw [← hW2]
  clear hW2
  go_wp2_with fail
  refine (CO.out _ B2.out).mono ?_
  rintro e w3 ⟨rfl, g3⟩
  have D3 := Lib.hid (next0 B2.out g3.1)
  have T3 := Lib.hid (T2.out.step0 g3.1)
  clear CO g3 B2 T2 y1 y2 y3 y4 y5
  cases zo
  case true =>
    have E9 := BT1.out rfl
    go_wp2_with fail
    refine bodyPost_ret (v := .tuple #[.slice none 0 0, .bool false]) (by simp [results, Tryz.results89, go_sem]) rfl ?_
    unfold BndR
    exact ⟨_, false, rfl, (fun h => by cases h), (fun _ => E9), D3.out⟩
  obtain ⟨y1, y2, y3, y4, y5⟩ := T3.out.two
  go_wp2_with fail
  refine (CD.out _ D3.out).mono ?_
  rintro e w4 ⟨rfl, g4⟩
  have D4 := Lib.hid (next0 D3.out g4.1)
  have T4 := Lib.hid (T3.out.step0 g4.1)
  clear CD g4 D3 T3 y1 y2 y3 y4 y5
  by_cases hd : (4 : Int) < (dt : Int)
  · have E9 := BT2.out (by omega)
    go_wp2_with fail
    refine bodyPost_ret (v := .tuple #[.slice none 0 0, .bool false]) (by simp [results, Tryz.results89, go_sem]) rfl ?_
    unfold BndR
    exact ⟨_, false, rfl, (fun h => by cases h), (fun _ => E9), D4.out⟩
  have V4 := Lib.hid (H4.out (by omega))
  have BT5 := Lib.hid (fun h3 => BT4.out (by trivial) (by omega) h3)
  obtain ⟨y1, y2, y3, y4, y5⟩ := T4.out.two
  obtain ⟨W5, hW5⟩ : ∃ W5, W5 = w4.alloc (.cells #[.string v, .string t.nm, .slice p2 t.args.length c2] 52) := ⟨_, rfl⟩
  have K5 : Hid (Below w4.heap.size w4 W5) := Lib.hid (by rw [hW5]; exact below_alloc _ _)
  have D5 := Lib.hid (next0 D4.out K5.out)
  have hs5 : W5.heap.size = w4.heap.size + 1 := by rw [hW5]; simp
  have O5 : Hid (Has W5 w4.heap.size #[.string v, .string t.nm, .slice p2 t.args.length c2]) := Lib.hid (by rw [hW5]; exact Has.new _ _ _)
  have hwB : B ≤ w4.heap.size := Nat.le_trans HB.out D4.out.size
  have TI : Hid (KB.inn (· < W5.heap.size) W5 ((v, t), .slice p2 t.args.length c2)) := Lib.hid ⟨(HT.out W5 D5.out).weaken fun b hb => by have := hs5; omega, HSN.out.2, HSN.out.1⟩
  have S5 : Hid (SIn (· < W5.heap.size) W5 (oneS v t) (.slice (some ⟨w4.heap.size, 0, none⟩) 1 1)) := Lib.hid (sin_has [((v, t), .slice p2 t.args.length c2)] O5.out (fun x hx => by obtain rfl := List.mem_singleton.1 hx; exact TI.out) (show w4.heap.size < W5.heap.size by omega) (by unfold maxLen; simp))
  have CA := Lib.hid (fun (x : Bd) (hx : x ∈ s) w' (k : Below W5.heap.size W5 w') (q : Value) (hq : SlIn (· < B) w' x.2.args q) (hn : x.2.nm.size ≤ maxLen) => rapply_any (oneS v t) (one_var HV.out) x.2 W5.heap.size w' _ q k.size (S5.out.deep k (Nat.le_refl _)) (hq.weaken fun b hb => by have := hs5; omega) hn (by have := size_8 (valid_mono (by omega) (HS4.out x hx)); omega))
  have SU := Lib.hid (fun (x : Bd) (hx : x ∈ s) => show sizeT (appT (oneS v t) x.2) ≤ 30000 from size_8 (by
    rw [app_sub (one_var HV.out)]
    exact valid_sub (k := 4) (d := 4) (fun z hz => asF_valid (by omega) (fun y hy => by obtain rfl := List.mem_singleton.1 hy; exact V4.out) hz) (HS4.out x hx)))
  have AT := Lib.hid (fun k x (h : s[k]? = some x) => anyb_take (p := fun x => deepB (appT (oneS v t) x.2)) h)
  have MT := Lib.hid (fun k x (h : s[k]? = some x) => show (s.take (k + 1)).map (fun x => ((x.1, appT (oneS v t) x.2) : Bd)) = (s.take k).map (fun x => ((x.1, appT (oneS v t) x.2) : Bd)) ++ [(x.1, appT (oneS v t) x.2)] from by rw [take_get s k x h]; simp)
  have AH := Lib.hid (fun k x (h : s[k]? = some x) (hd : 4 < depthT (appT (oneS v t) x.2)) => BT3.out (List.any_eq_true.2 ⟨x, List.mem_of_getElem? h, by simp [deepB, hd]⟩))
  have AE : Hid ((s.take s.length).any (fun x => deepB (appT (oneS v t) x.2)) = s.any fun x => deepB (appT (oneS v t) x.2)) := Lib.hid (by rw [List.take_length])
  have ME : Hid ((s.take s.length).map (fun x => ((x.1, appT (oneS v t) x.2) : Bd)) = s.map fun x => ((x.1, appT (oneS v t) x.2) : Bd)) := Lib.hid (by rw [List.take_length])
  have PU := Lib.hid (fun w' (k : Below W5.heap.size W5 w') ov (ho : SIn (· < w'.heap.size) w' (s.map fun x => ((x.1, appT (oneS v t) x.2) : Bd)) ov) => put_any (s.map fun x => ((x.1, appT (oneS v t) x.2) : Bd)) (v, t) (by rw [List.length_map, HLN.out]; omega) w'.heap.size w' ov (.slice p2 t.args.length c2) (Nat.le_refl _) ho (KB.wide (KB.keep TI.out fun b o hb => k.cell (p := ⟨b, o, none⟩) hb) fun b hb => Nat.lt_of_lt_of_le hb k.size))
  clear H4 HT BT1 BT2 BT3 BT4 HS4 V4 TI S5
  dsimp only at PU
  rw [HLN.out] at AE ME
  generalize t.nm = tn at *
  generalize t.args.length = ta at *
  go_upto_region 6 with fail
  rw [← hW5]
  clear hW5 y1 y2 y3 y4 y5
  go_loopw [9, 10] (fun ov i wr => ∃ (k : Nat) (L : List (Bd × Value)), k ≤ n ∧ i = .int .i64 k ∧ Hid (L.map (·.1) = (s.take k).map (fun x => ((x.1, appT (oneS v t) x.2) : Bd))) ∧ Hid ((s.take k).any (fun x => deepB (appT (oneS v t) x.2)) = false) ∧ Hid (OwnH W5.heap.size wr L ov) ∧ Hid (Below W5.heap.size W5 wr)) (fun _ i _ => n - (intOf i).toNat)
  case atStart => exact ⟨0, [], Nat.zero_le _, rfl, Lib.hid rfl, Lib.hid rfl, Lib.hid (OwnH.nil _ _), Lib.hid (Below.refl _ _)⟩
  case round =>
    obtain ⟨k, L, hk, rfl, hM, hA, hO, hK⟩ := hrel
    obtain ⟨va, vc, rfl⟩ := hO.out.form
    have hLk : L.length ≤ k := by
      have := congrArg List.length hM.out
      rw [List.length_map, List.length_map, List.length_take, HLN.out] at this
      omega
    by_cases hlt : k < n
    · obtain ⟨x, b, o, q, d, hx, rfl, hb, e1, e2, e3, hxs, hxn, hxv⟩ := (RowS.deep HR.out (next0 D5.out hK.out) HB.out) k (by rw [HLN.out]; exact hlt)
      have hmx := List.mem_of_getElem? hx
      have CA1 := Lib.hid (CA.out x hmx wr hK.out _ hxs hxn)
      have SU1 := Lib.hid (SU.out x hmx)
      have AT1 := Lib.hid (AT.out k x hx)
      have MT1 := Lib.hid (MT.out k x hx)
      have AH1 := Lib.hid (AH.out k x hx)
      have XV := Lib.hid hxv
      clear hx hmx hxs hxn hxv CA SU AT MT AH
      have A1 := bd3 (show L.length ≤ 1000001 by omega)
      have A2 := bd4 (show L.length ≤ 1000001 by omega)
      obtain ⟨u, hu⟩ : ∃ u, appT (oneS v t) x.2 = u := ⟨_, rfl⟩
      rw [hu] at CA1 SU1 AT1 MT1 AH1
      clear hu
      generalize x.2.nm = xn at *
      generalize x.2.args.length = xa at *
      generalize x.1 = xv at *
      unfold RApR at CA1
      go_wp2_with fail
      refine CA1.out.mono ?_
      rintro e w6 ⟨q6, d6, rfl, hS6, hn6, k6⟩
      have K6 := Lib.hid (next0 hK.out k6)
      have O6 := Lib.hid (hO.out.below k6)
      have hbr : b < wr.heap.size := by have := hK.out.size; omega
      have XC := Lib.hid (fun w' (g : Below wr.heap.size wr w') => (g.cell (p := ⟨b, _, none⟩) hbr).trans e1)
      have OL := Lib.hid (fun k hk => (hO.out.1.lt k hk).2)
      obtain ⟨W7, hW7⟩ : ∃ W7, W7 = w6.alloc (.cells #[.string u.nm, .slice q6 u.args.length d6] 27) := ⟨_, rfl⟩
      have J7 : Hid (Below w6.heap.size w6 W7) := Lib.hid (by rw [hW7]; exact below_alloc _ _)
      have U7 : Hid (Has W7 w6.heap.size #[.string u.nm, .slice q6 u.args.length d6]) := Lib.hid (by rw [hW7]; exact Has.new _ _ _)
      have hs7 : W7.heap.size = w6.heap.size + 1 := by rw [hW7]; simp
      have K7 := Lib.hid (next0 K6.out J7.out)
      have R7 := Lib.hid (next0 k6 J7.out)
      have O7 := Lib.hid (O6.out.below J7.out)
      have S7 := Lib.hid (hS6.frame (w' := W7) fun b o hb => J7.out.cell (p := ⟨b, o, none⟩) (show b < w6.heap.size by have := hK.out.size; have := k6.size; omega))
      have CD7 := Lib.hid (rdepth_any u W7.heap.size W7 _ (Nat.le_refl _) (S7.out.weaken fun b hb => by have := hK.out.size; have := k6.size; omega) (by have := SU1.out; omega))
      have NU := Lib.hid hn6
      clear hS6 hn6 k6 CA1 K6 O6 hO hK e1 e2 e3 J7
      generalize hdu : depthT u = du at *
      have HDU := Lib.hid hdu
      clear hdu
      have hun := Lib.hid (rfl : u.nm = u.nm)
      obtain ⟨y1, y2, y3, y4, y5⟩ := U7.out.two
      go_upto_region 9 with fail
      rw [← hW7]
      clear hW7
      go_wp2_with fail
      refine CD7.out.mono ?_
      rintro e w8 ⟨rfl, g8⟩
      have K8 := Lib.hid (next0 K7.out g8.1)
      have R8 := Lib.hid (next0 R7.out g8.1)
      have O8 := Lib.hid (O7.out.below g8.1)
      have U8 := Lib.hid (U7.out.step0 g8.1)
      have hs8 : W7.heap.size ≤ w8.heap.size := g8.1.size
      have S8 := Lib.hid (S7.out.frame (w' := w8) fun b o hb => g8.1.cell (p := ⟨b, o, none⟩) (show b < W7.heap.size by have := R7.out.size; have := K7.out.size; omega))
      clear CD7 g8 K7 R7 O7 U7 S7 y1 y2 y3 y4 y5
      by_cases hd8 : (4 : Int) < (du : Int)
      · have E9 := AH1.out (by omega)
        have D9 := Lib.hid (next0 D5.out K8.out)
        go_wp2_with fail
        refine bodyPost_ret (v := .tuple #[.slice none 0 0, .bool false]) (by simp [results, Tryz.results89, go_sem]) rfl ?_
        unfold BndR
        exact ⟨_, false, rfl, (fun h => by cases h), (fun _ => E9), D9.out⟩
      · have ND : deepB u = false := by rw [← HDU.out] at hd8; simp [deepB]; omega
        obtain ⟨y1, y2, y3, y4, y5⟩ := U8.out.two
        have c1 := XC.out w8 R8.out
        have hzb : W5.heap.size ≤ (w8.alloc (.cells #[.string xv, .string u.nm, .slice q6 u.args.length d6] 52)).heap.size := by have := K8.out.size; simp; omega
        have KI : Hid (KB.inn (fun b => b < W5.heap.size ∨ (wr.heap.size ≤ b ∧ b < w8.heap.size)) w8 ((xv, u), .slice q6 u.args.length d6)) := Lib.hid ⟨S8.out.weaken fun b hb => by omega, NU.out, XV.out⟩
        clear U8 S8 NU XV XC
        generalize hun' : u.nm = un at *
        have HUN := Lib.hid hun'
        clear hun' hun
        generalize u.args.length = ul at *
        go_wp2_with fail
        have OW : ((w8.alloc (.cells #[.string xv, .string un, .slice q6 ul d6] 52)).drew).ownsRow W5.heap.size 52 3 (.slice va L.length vc) L.length (KB.flat L) := ⟨(O8.out.1.alloc (.cells #[.string xv, .string un, .slice q6 ul d6] 52)).1, (O8.out.1.alloc (.cells #[.string xv, .string un, .slice q6 ul d6] 52)).2⟩
        have NW : ∀ j u, [Value.string xv, .string un, .slice q6 ul d6][j]? = some u → ((w8.alloc (.cells #[.string xv, .string un, .slice q6 ul d6] 52)).drew).cell? ((⟨w8.heap.size, 0, none⟩ : Addr).add j) = some u := newsK w8 _ _ _ _
        have OA := Lib.hid (fun (w9 : World) (g5 cap5 : Nat) hown (hgrow : ((w8.alloc (.cells #[.string xv, .string un, .slice q6 ul d6] 52)).drew).grownBy w9 (Value.slice va L.length vc).ownBlock) hat => OwnH.add (w2 := w8.drew) (w3 := w9) (o := .cells #[.string xv, .string un, .slice q6 ul d6] 52) (g := g5) (cap := cap5) (lo := wr.heap.size) (x := ((xv, u), Value.slice q6 ul d6)) (O8.out.drewN 1) (KB.keep KI.out fun _ _ _ => rfl) (by exact K8.out.size) OL.out hown hgrow hat)
        have OK9 := Lib.hid (fun (w9 : World) (hgrow : ((w8.alloc (.cells #[.string xv, .string un, .slice q6 ul d6] 52)).drew).grownBy w9 (Value.slice va L.length vc).ownBlock) => show Below W5.heap.size W5 w9 from ((K8.out.alloc (by exact K8.out.size) (.cells #[.string xv, .string un, .slice q6 ul d6] 52)).drew).grown hgrow (by have := K8.out.size; simp; omega) (fun k hk => (O8.out.1.lt k hk).1))
        have hzd : W5.heap.size ≤ ((w8.alloc (.cells #[.string xv, .string un, .slice q6 ul d6] 52)).drew).heap.size := hzb
        have hze : ((w8.alloc (.cells #[.string xv, .string un, .slice q6 ul d6] 52)).drew).heap.size = w8.heap.size + 1 := by simp
        have HF : Hid (KB.flat L ++ KB.cells ((xv, u), Value.slice q6 ul d6) = KB.flat L ++ [.string xv, .string un, .slice q6 ul d6]) := Lib.hid (by rw [← HUN.out]; rfl)
        clear O8 KI
        go_region_law (first
          | (refine step_append_lies _ rfl _ _ 22 rfl W5.heap.size 52 i0 zB 3 56 Tryz.underlying22 hi hz0 hz1 hz2 rfl (by decide) (.slice va L.length vc) L.length (KB.flat L) rfl OW ⟨w8.heap.size, 0, none⟩ 1 1 [.string xv, .string un, .slice q6 ul d6] rfl rfl NW (one_B _ _ _ _ _) (by decide) A1 A2 hzd (w8.heap.size + 1) hze ?_; intro g5 cap5 w9 hown hgrow hat hlt5; have O9 := Lib.hid (OA.out w9 g5 cap5 (by rw [HF.out]; exact hown) hgrow hat); have K9 := Lib.hid (OK9.out w9 hgrow); clear hown hgrow hat))
        all_goals
          go_wp2_with fail
          go_roundw
          case rel => exact ⟨k + 1, L ++ [((xv, u), Value.slice q6 ul d6)], by omega, by go_num, Lib.hid (by rw [List.map_append, hM.out, MT1.out]; rfl), Lib.hid (by rw [AT1.out, hA.out, ND]; rfl), O9, K9⟩
          case measure => simp [intOf]; omega
    · obtain rfl : k = n := by omega
      have SO := Lib.hid (hO.out.sin)
      rw [hM.out, ME.out] at SO
      have NA : (s.any fun x => deepB (appT (oneS v t) x.2)) = false := by rw [← AE.out]; exact hA.out
      have E9 := Lib.hid (BT5.out NA)
      have PU1 := Lib.hid (PU.out wr hK.out _ SO.out)
      have D9 := Lib.hid (next0 D5.out hK.out)
      obtain ⟨z1, z2, z3⟩ := three (O5.out.step0 hK.out)
      unfold InsR at PU1
      clear PU SO CA SU AT MT AH AE ME hM hA hO
      generalize (s.map fun x => ((x.1, appT (oneS v t) x.2) : Bd)) = s9 at *
      go_wp2_with fail
      refine PU1.out.mono ?_
      rintro e w6 ⟨v6, rfl, hS6, k6⟩
      have S6 := Lib.hid hS6
      have D6 := Lib.hid (next0 D9.out k6)
      clear hS6 k6
      go_wp2_with fail
      refine bodyPost_ret (v := .tuple #[v6, .bool true]) (by simp [results, Tryz.results89, go_sem]) rfl ?_
      unfold BndR
      exact ⟨_, true, rfl, (fun _ => ⟨_, E9.out, S6.out⟩), (fun h => by cases h), D6.out⟩
end UnuI
end Go.Proofs.YtaenalpckloikaaGreatDoor
/- The reference's solve and Unify: what they answer is solveP and unifyR. Conditions: at most a thousand variables; valid terms. Made by genunuj.py. -/
namespace Go.Proofs.YtaenalpckloikaaGreatDoor
open Go Go.RowKit
namespace UnuJ
open LexM TermM TermI Kit TermN TermU UniK UniM UniA UniB UniC UniD UniE UniG UniH UniJ UniO UniL UniR UnmA UnmB UnuA UnuB UnuD UnuE UnuF UnuG UnuH UnuI
theorem slin_far2 {ok : Nat → Prop} {w : World} {k : Nat} {l : List Tm} {v : Value} (h : SlIn ok w l v) (hk : ∀ b, ok b → b ≠ k) (a b : Value) : SlIn ok ((w.setCell ⟨k, 0, none⟩ a).setCell ⟨k, 1, none⟩ b) l v :=
  h.frame fun g o hg => by rw [cell_far (by show g ≠ k; exact hk g hg), cell_far (by show g ≠ k; exact hk g hg)]
def SolT (vs : List ByteArray) (n : Nat) : Prop := ∀ (a b : Tm) (s : List Bd) (o : Option (List Bd)), solveP n a b s = some o → Gd vs s → Tg vs a → Tg vs b → Near s a → Near s b → sizeT a ≤ 30000 → sizeT b ≤ 30000 →
  ∀ (B : Nat) (w : World) (av bv sv : Value), B ≤ w.heap.size → SIn (· < B) w s sv → SlIn (· < B) w a.args av → SlIn (· < B) w b.args bv → a.nm.size ≤ maxLen → b.nm.size ≤ maxLen →
    Calls Tryz.prog 58 #[.agg #[.string a.nm, av], .agg #[.string b.nm, bv], sv] w (BndR o w)
theorem solveL_head {f : Tm → Tm → List Bd → Option (Option (List Bd))} {xs ys : List Tm} {k : Nat} {x y : Tm} (hx : xs[k]? = some x) (hy : ys[k]? = some y) (s : List Bd) :
    solveL f (xs.drop k) (ys.drop k) s = match f x y s with
      | none => none
      | some none => some none
      | some (some s') => solveL f (xs.drop (k + 1)) (ys.drop (k + 1)) s' := by
  rw [TermQ.drop_get hx, TermQ.drop_get hy, solveL]
  cases f x y s with
  | none => rfl
  | some z => cases z <;> rfl
theorem solveL_end {f : Tm → Tm → List Bd → Option (Option (List Bd))} {xs ys : List Tm} {k : Nat} (hx : xs.length ≤ k) (s : List Bd) : solveL f (xs.drop k) (ys.drop k) s = some (some s) := by
  rw [List.drop_eq_nil_of_le hx, solveL]
  simp
set_option maxRecDepth 100000 in
set_option maxHeartbeats 6400000 in
theorem rsolve_any (vs : List ByteArray) (hvs : vs.length ≤ 1000) (n : Nat) : SolT vs n := by
  induction n with
  | zero => intro a b s o h; cases h
  | succ n IH =>
    intro a b s o h hg ta tb na nb za zb B w av bv sv hB hs ha hb han hbn
    obtain ⟨pa, ca, rfl⟩ := ha.form
    obtain ⟨pb, cb, rfl⟩ := hb.form
    rw [solveP] at h
    have hIv := hg.1
    have hsl : s.length ≤ 1000 := Nat.le_trans (keys_len hIv.1.1 fun x hx => (hg.2 x hx).1) hvs
    have x8 := na.valid hIv
    have y8 := nb.valid hIv
    have hXA : Hid (∀ z ∈ (appT s a).args, Near s z ∧ sizeT z ≤ 30000 ∧ Tg vs z) := Lib.hid (fun z hz => ⟨na.arg hIv hz, Nat.le_trans (arg_size hz) (size_8 x8), wf_arg (wf_app hIv.1 ta.1) hz, vars_arg (vars_app hIv.1.2.1 hg.2 ta.2) hz⟩)
    have hYA : Hid (∀ z ∈ (appT s b).args, Near s z ∧ sizeT z ≤ 30000 ∧ Tg vs z) := Lib.hid (fun z hz => ⟨nb.arg hIv hz, Nat.le_trans (arg_size hz) (size_8 y8), wf_arg (wf_app hIv.1 tb.1) hz, vars_arg (vars_app hIv.1.2.1 hg.2 tb.2) hz⟩)
    obtain ⟨W2, hW2⟩ : ∃ W2, W2 = (w.alloc (.cells #[.string a.nm, .slice pa a.args.length ca] 27)).alloc (.cells #[.string b.nm, .slice pb b.args.length cb] 27) := ⟨_, rfl⟩
    have B2 : Hid (Below w.heap.size w W2) := Lib.hid (by rw [hW2]; exact ((Gr.alloc _ _).more _).1)
    have hs2 : w.heap.size + 2 ≤ W2.heap.size := by rw [hW2]; simp
    have H2 : Hid (Has W2 w.heap.size #[.string a.nm, .slice pa a.args.length ca]) := Lib.hid (by rw [hW2]; exact (Has.new w _ _).alloc _)
    have T2 : Hid (Has W2 (w.heap.size + 1) #[.string b.nm, .slice pb b.args.length cb]) := Lib.hid (by rw [hW2]; exact Has.new1 w _ _ _)
    have LA := Lib.hid (fun w' (k : Below w.heap.size w w') => rapply_any s hIv.1.2.1 a B w' sv _ (Nat.le_trans hB k.size) (hs.deep k hB) (ha.deep k hB) han (by omega))
    have LB := Lib.hid (fun w' (k : Below w.heap.size w w') => rapply_any s hIv.1.2.1 b B w' sv _ (Nat.le_trans hB k.size) (hs.deep k hB) (hb.deep k hB) hbn (by omega))
    have SS := Lib.hid (fun w' (k : Below w.heap.size w w') => (hs.deep k hB).wide (ok' := (· < w'.heap.size)) fun b hb => Nat.lt_of_lt_of_le hb (Nat.le_trans hB k.size))
    have HIV := Lib.hid hg
    have HP := Lib.hid h
    have HX8 := Lib.hid (And.intro x8 y8)
    have HLEN : Hid ((appT s a).args.length ≤ 30000) := Lib.hid (by have h1 := size_8 x8; have h2 := len_size (appT s a).args; generalize appT s a = t at *; obtain ⟨m, l⟩ := t; simp only [sizeT, Tm.args] at *; omega)
    have HB := Lib.hid hB
    have HIH := Lib.hid IH
    clear IH h hg ta tb na nb za zb hs ha hb han hbn hIv x8 y8 hB
    generalize appT s a = x at *
    generalize appT s b = y at *
    unfold RApR at LA LB
    generalize a.nm = an at *
    generalize a.args.length = al at *
    generalize b.nm = bn at *
    generalize b.args.length = bl at *
    obtain ⟨y1, y2, y3, y4, y5⟩ := H2.out.two
    obtain ⟨z1, z2, z3, z4, z5⟩ := T2.out.two
    go_enter Tryz.func58, Tryz.ntmps58
    go_upto_region 1 with fail
    rw [← hW2]
    clear hW2
    go_cut [] (fun wx => ∃ (p3 : Option Addr) (c3 : Nat) (p4 : Option Addr) (c4 : Nat), Hid (Has wx w.heap.size #[.string x.nm, .slice p3 x.args.length c3]) ∧ Hid (Has wx (w.heap.size + 1) #[.string y.nm, .slice p4 y.args.length c4]) ∧ Hid (SlIn (· < wx.heap.size) wx x.args (.slice p3 x.args.length c3)) ∧ Hid (SlIn (· < wx.heap.size) wx y.args (.slice p4 y.args.length c4)) ∧ Hid (x.nm.size ≤ maxLen ∧ y.nm.size ≤ maxLen) ∧ Hid (Below w.heap.size w wx) ∧ w.heap.size + 2 ≤ wx.heap.size)
    case first =>
      clear HP HIH hXA hYA SS HIV HX8
      go_region_law (first
        | (go_simp; go_at_call 21; (with_reducible refine (LA.out _ (by first | exact B2.out | exact B2.out.drew | exact below_drewN B2.out _)).mono ?_); rintro e w3 ⟨p3, c3, rfl, s3, n3, b3⟩; have B3 : Hid (Below w.heap.size w w3) := Lib.hid (by first | exact next0 B2.out b3 | exact next0 B2.out.drew b3 | exact next0 (below_drewN B2.out _) b3); have K3 : Hid (Below W2.heap.size W2 w3) := Lib.hid (by first | exact b3 | exact next0 (Below.refl _ _).drew b3 | exact next0 (below_drewN (Below.refl _ _) _) b3); have H3 := Lib.hid (H2.out.step0 K3.out); have T3 := Lib.hid (T2.out.step0 K3.out); have S3 := Lib.hid (s3.weaken (ok' := fun b => b < B ∨ (w.heap.size + 2 ≤ b ∧ b < w3.heap.size)) (fun b hb => hb.imp id (fun h => ⟨Nat.le_trans hs2 h.1, h.2⟩))); have N3 := Lib.hid n3; have hs3 : w.heap.size + 2 ≤ w3.heap.size := Nat.le_trans hs2 K3.out.size; clear s3 n3 b3 y1 y2 y3 y4 y5 z1 z2 z3 z4 z5; obtain ⟨z1, z2, z3, z4, z5⟩ := T3.out.two)
        | (go_simp; go_at_call 21; (with_reducible refine (LB.out _ (by first | exact B3.out | exact B3.out.drew | exact below_drewN B3.out _)).mono ?_); rintro e w4 ⟨p4, c4, rfl, s4, n4, b4⟩; have B4 : Hid (Below w.heap.size w w4) := Lib.hid (by first | exact next0 B3.out b4 | exact next0 B3.out.drew b4 | exact next0 (below_drewN B3.out _) b4); have K4 : Hid (Below w3.heap.size w3 w4) := Lib.hid (by first | exact b4 | exact next0 (Below.refl _ _).drew b4 | exact next0 (below_drewN (Below.refl _ _) _) b4); have S4 := Lib.hid (s4.weaken (ok' := fun b => b < B ∨ (w.heap.size + 2 ≤ b ∧ b < w4.heap.size)) (fun b hb => hb.imp id (fun h => ⟨Nat.le_trans hs3 h.1, h.2⟩))); have N4 := Lib.hid n4; have hs4 : w3.heap.size ≤ w4.heap.size := K4.out.size; have S3' := Lib.hid (S3.out.frame (w' := w4) (fun b o hb => K4.out.cell (p := ⟨b, o, none⟩) (show b < w3.heap.size by have := HB.out; omega))); have H4 := Lib.hid (H3.out.step0 K4.out); have T4 := Lib.hid (T3.out.step0 K4.out); clear s4 n4 b4 z1 z2 z3 z4 z5; obtain ⟨y1, y2, y3, y4, y5⟩ := H4.out.two; obtain ⟨z1, z2, z3, z4, z5⟩ := T4.out.two))
      all_goals
        go_wp2_with fail
        go_meet
        exact ⟨p3, c3, p4, c4, Lib.hid (far_agg (k := w.heap.size + 1) (by omega) (put_agg H4.out _ _) _ _), Lib.hid (put_agg (far_agg (k := w.heap.size) (by omega) T4.out _ _) _ _), Lib.hid ((slin_far2 (slin_far2 S3'.out (fun b hb => by have := HB.out; omega) _ _) (fun b hb => by have := HB.out; omega) _ _).weaken (fun b hb => by have := HB.out; simp [World.setCell]; omega)), Lib.hid ((slin_far2 (slin_far2 S4.out (fun b hb => by have := HB.out; omega) _ _) (fun b hb => by have := HB.out; omega) _ _).weaken (fun b hb => by have := HB.out; simp [World.setCell]; omega)), Lib.hid ⟨N3.out, N4.out⟩, Lib.hid ((((B4.out.setCell (p := ⟨w.heap.size, 0, none⟩) (by simp) _).setCell (p := ⟨w.heap.size, 1, none⟩) (by simp) _).setCell (p := ⟨w.heap.size + 1, 0, none⟩) (by simp) _).setCell (p := ⟨w.heap.size + 1, 1, none⟩) (by simp) _), by simp [World.setCell]; omega⟩
    case rest =>
      obtain ⟨p3, c3, p4, c4, HA, HY, S3, S4, NN, K1, hs1⟩ := hcut
      clear LA LB B2 H2 T2 y1 y2 y3 y4 y5 z1 z2 z3 z4 z5 hs2
      obtain ⟨zq, hzq⟩ : ∃ z, (cmpT x y == 0) = z := ⟨_, rfl⟩
      have CE := Lib.hid (TermEq.term_any x (cmpT x y == 0) wc.heap.size wc (.slice p3 x.args.length c3) y (.slice p4 y.args.length c4) (by rw [beq_iff_eq, cmp_zero]) (Nat.le_refl _) S3.out S4.out)
      have CX := Lib.hid (fun w' => rvar_t x p3 c3 w' NN.out.1)
      have CY := Lib.hid (fun w' => rvar_t y p4 c4 w' NN.out.2)
      have BX := Lib.hid (fun (hv : isV y = true) w' (k : Below wc.heap.size wc w') => rbind_any s y.nm x (isv_args hv).2 HX8.out.1 HIV.out.1.1.2.2.1 hsl w'.heap.size w' sv p3 c3 (Nat.le_refl _) (SS.out w' (next0 K1.out k)) ((S3.out.deep k (Nat.le_refl _)).weaken fun b hb => Nat.lt_of_lt_of_le hb k.size) NN.out.2 NN.out.1)
      have BY := Lib.hid (fun (hv : isV x = true) w' (k : Below wc.heap.size wc w') => rbind_any s x.nm y (isv_args hv).2 HX8.out.2 HIV.out.1.1.2.2.1 hsl w'.heap.size w' sv p4 c4 (Nat.le_refl _) (SS.out w' (next0 K1.out k)) ((S4.out.deep k (Nat.le_refl _)).weaken fun b hb => Nat.lt_of_lt_of_le hb k.size) NN.out.1 NN.out.2)
      have HH := Lib.hid (fun w' (k : Below wc.heap.size wc w') => And.intro (HA.out.step0 k).two (HY.out.step0 k).two)
      have RX := Lib.hid S3.out.row
      have RY := Lib.hid S4.out.row
      have HQ : Hid (if zq = true then o = some s else (if (isV x && isV y && ltB x.nm y.nm) = true then some (bindR s y.nm x) else if isV x = true then some (bindR s x.nm y) else if isV y = true then some (bindR s y.nm x) else if headE x y = true then solveL (solveP n) x.args y.args s else some none) = some o) := Lib.hid (by
        have h := HP.out
        unfold solveB at h
        rw [← hzq]
        by_cases hc : cmpT x y = 0
        · rw [if_pos hc] at h
          rw [if_pos (by simpa using hc)]
          injection h with h
          exact h.symm
        · rw [if_neg hc] at h
          rw [if_neg (by simpa using hc)]
          exact h)
      rw [hzq] at CE
      clear HP hzq S3 S4 HA HY
      have HEQ : Hid (headE x y = (eqB x.nm y.nm && decide (x.args.length = y.args.length))) := Lib.hid rfl
      obtain ⟨vx, hvx⟩ : ∃ z, isV x = z := ⟨_, rfl⟩
      obtain ⟨vy, hvy⟩ : ∃ z, isV y = z := ⟨_, rfl⟩
      obtain ⟨zl, hzl⟩ : ∃ z, Op.bytesLess x.nm.toList y.nm.toList = z := ⟨_, rfl⟩
      have HZL : ltB x.nm y.nm = zl := by unfold ltB; rw [← hzl, ByteArray.toList_eq, ByteArray.toList_eq]
      obtain ⟨zn, hzn⟩ : ∃ z, (x.nm.toList == y.nm.toList) = z := ⟨_, rfl⟩
      have HZN : eqB x.nm y.nm = zn := by unfold eqB; rw [← hzn, ByteArray.toList_eq, ByteArray.toList_eq]
      have hzn2 : (x.nm.toList != y.nm.toList) = !zn := by rw [bne, hzn]
      rw [HZN] at HEQ
      rw [hvx, hvy, HZL, HEQ.out] at HQ
      rw [hvx] at CX BY
      rw [hvy] at CY BX
      clear HEQ HZN HZL hvx hvy HX8
      have hlx : x.args.length ≤ 30000 := HLEN.out
      generalize hxl : x.args.length = xl at *
      generalize hyl : y.args.length = yl at *
      have HXL := Lib.hid hxl
      have HYL := Lib.hid hyl
      clear hxl hyl
      generalize hoX : bindR s y.nm x = oX at *
      generalize hoY : bindR s x.nm y = oY at *
      clear hoX hoY
      generalize x.nm = xn at *
      generalize y.nm = yn at *
      unfold BndR at BX BY
      obtain ⟨⟨y1, y2, y3, y4, y5⟩, z1, z2, z3, z4, z5⟩ := HH.out wc (Below.refl _ _)
      go_wp2_with fail
      refine CE.out.mono ?_
      rintro e w5 ⟨rfl, g5⟩
      have K5 := Lib.hid g5.1
      clear CE g5 y1 y2 y3 y4 y5 z1 z2 z3 z4 z5
      cases zq
      case true =>
        have e9 : o = some s := by simpa using HQ.out
        subst e9
        have SZ := Lib.hid (SS.out w5 (next0 K1.out K5.out))
        have DZ := Lib.hid (next0 K1.out K5.out)
        clear SS
        go_wp2_with fail
        refine bodyPost_ret (v := .tuple #[sv, .bool true]) (by simp [results, Tryz.results58, go_sem]) rfl ?_
        unfold BndR
        exact ⟨_, true, rfl, (fun _ => ⟨s, rfl, SZ.out⟩), (fun h => by cases h), DZ.out⟩
      case false =>
        have HQ2 : Hid ((if (vx && vy && zl) = true then some oX else if vx = true then some oY else if vy = true then some oX else if (zn && decide (xl = yl)) = true then solveL (solveP n) x.args y.args s else some none) = some o) := Lib.hid (by simpa using HQ.out)
        clear HQ
        cases vx
        case true =>
          cases vy
          case true =>
            cases zl
            case true =>
              have e9 : oX = o := by simpa using HQ2.out
              subst e9
              clear RX RY hXA hYA HIH hzn hzn2 SS HQ2 BY
              obtain ⟨⟨y1, y2, y3, y4, y5⟩, z1, z2, z3, z4, z5⟩ := HH.out w5 K5.out
              go_wp2_with fail
              refine (CX.out _).mono ?_
              rintro e w6 ⟨rfl, g6⟩
              have K6 := Lib.hid (next0 K5.out g6.1)
              clear g6 y1 y2 y3 y4 y5 z1 z2 z3 z4 z5
              obtain ⟨⟨y1, y2, y3, y4, y5⟩, z1, z2, z3, z4, z5⟩ := HH.out w6 K6.out
              go_wp2_with fail
              refine (CY.out _).mono ?_
              rintro e w7 ⟨rfl, g7⟩
              have K7 := Lib.hid (next0 K6.out g7.1)
              clear g7 y1 y2 y3 y4 y5 z1 z2 z3 z4 z5
              obtain ⟨⟨y1, y2, y3, y4, y5⟩, z1, z2, z3, z4, z5⟩ := HH.out w7 K7.out
              go_wp2_with fail
              refine (BX.out (by trivial) _ K7.out).mono ?_
              rintro e w8 ⟨v9, f9, rfl, h1, h2, k9⟩
              have D9 := Lib.hid (next0 (next0 K1.out K7.out) k9)
              have H9 := Lib.hid (And.intro h1 h2)
              clear h1 h2 k9
              go_wp2_with fail
              refine bodyPost_ret (v := .tuple #[v9, .bool f9]) (by simp [results, Tryz.results58, go_sem]) rfl ?_
              unfold BndR
              exact ⟨v9, f9, rfl, H9.out.1, H9.out.2, D9.out⟩
            case false =>
              have e9 : oY = o := by simpa using HQ2.out
              subst e9
              clear RX RY hXA hYA HIH hzn hzn2 SS HQ2 BX
              obtain ⟨⟨y1, y2, y3, y4, y5⟩, z1, z2, z3, z4, z5⟩ := HH.out w5 K5.out
              go_wp2_with fail
              refine (CX.out _).mono ?_
              rintro e w6 ⟨rfl, g6⟩
              have K6 := Lib.hid (next0 K5.out g6.1)
              clear g6 y1 y2 y3 y4 y5 z1 z2 z3 z4 z5
              obtain ⟨⟨y1, y2, y3, y4, y5⟩, z1, z2, z3, z4, z5⟩ := HH.out w6 K6.out
              go_wp2_with fail
              refine (CY.out _).mono ?_
              rintro e w7 ⟨rfl, g7⟩
              have K7 := Lib.hid (next0 K6.out g7.1)
              clear g7 y1 y2 y3 y4 y5 z1 z2 z3 z4 z5
              obtain ⟨⟨y1, y2, y3, y4, y5⟩, z1, z2, z3, z4, z5⟩ := HH.out w7 K7.out
              go_wp2_with fail
              refine (CX.out _).mono ?_
              rintro e w8 ⟨rfl, g8⟩
              have K8 := Lib.hid (next0 K7.out g8.1)
              clear g8 y1 y2 y3 y4 y5 z1 z2 z3 z4 z5
              obtain ⟨⟨y1, y2, y3, y4, y5⟩, z1, z2, z3, z4, z5⟩ := HH.out w8 K8.out
              go_wp2_with fail
              refine (BY.out (by trivial) _ K8.out).mono ?_
              rintro e w9 ⟨v9, f9, rfl, h1, h2, k9⟩
              have D9 := Lib.hid (next0 (next0 K1.out K8.out) k9)
              have H9 := Lib.hid (And.intro h1 h2)
              clear h1 h2 k9
              go_wp2_with fail
              refine bodyPost_ret (v := .tuple #[v9, .bool f9]) (by simp [results, Tryz.results58, go_sem]) rfl ?_
              unfold BndR
              exact ⟨v9, f9, rfl, H9.out.1, H9.out.2, D9.out⟩
          case false =>
            have e9 : oY = o := by simpa using HQ2.out
            subst e9
            clear RX RY hXA hYA HIH hzn hzn2 SS HQ2 BX
            obtain ⟨⟨y1, y2, y3, y4, y5⟩, z1, z2, z3, z4, z5⟩ := HH.out w5 K5.out
            go_wp2_with fail
            refine (CX.out _).mono ?_
            rintro e w6 ⟨rfl, g6⟩
            have K6 := Lib.hid (next0 K5.out g6.1)
            clear g6 y1 y2 y3 y4 y5 z1 z2 z3 z4 z5
            obtain ⟨⟨y1, y2, y3, y4, y5⟩, z1, z2, z3, z4, z5⟩ := HH.out w6 K6.out
            go_wp2_with fail
            refine (CY.out _).mono ?_
            rintro e w7 ⟨rfl, g7⟩
            have K7 := Lib.hid (next0 K6.out g7.1)
            clear g7 y1 y2 y3 y4 y5 z1 z2 z3 z4 z5
            obtain ⟨⟨y1, y2, y3, y4, y5⟩, z1, z2, z3, z4, z5⟩ := HH.out w7 K7.out
            go_wp2_with fail
            refine (CX.out _).mono ?_
            rintro e w8 ⟨rfl, g8⟩
            have K8 := Lib.hid (next0 K7.out g8.1)
            clear g8 y1 y2 y3 y4 y5 z1 z2 z3 z4 z5
            obtain ⟨⟨y1, y2, y3, y4, y5⟩, z1, z2, z3, z4, z5⟩ := HH.out w8 K8.out
            go_wp2_with fail
            refine (BY.out (by trivial) _ K8.out).mono ?_
            rintro e w9 ⟨v9, f9, rfl, h1, h2, k9⟩
            have D9 := Lib.hid (next0 (next0 K1.out K8.out) k9)
            have H9 := Lib.hid (And.intro h1 h2)
            clear h1 h2 k9
            go_wp2_with fail
            refine bodyPost_ret (v := .tuple #[v9, .bool f9]) (by simp [results, Tryz.results58, go_sem]) rfl ?_
            unfold BndR
            exact ⟨v9, f9, rfl, H9.out.1, H9.out.2, D9.out⟩
        case false =>
          cases vy
          case true =>
            have e9 : oX = o := by simpa using HQ2.out
            subst e9
            clear RX RY hXA hYA HIH hzn hzn2 SS HQ2 BY
            obtain ⟨⟨y1, y2, y3, y4, y5⟩, z1, z2, z3, z4, z5⟩ := HH.out w5 K5.out
            go_wp2_with fail
            refine (CX.out _).mono ?_
            rintro e w6 ⟨rfl, g6⟩
            have K6 := Lib.hid (next0 K5.out g6.1)
            clear g6 y1 y2 y3 y4 y5 z1 z2 z3 z4 z5
            obtain ⟨⟨y1, y2, y3, y4, y5⟩, z1, z2, z3, z4, z5⟩ := HH.out w6 K6.out
            go_wp2_with fail
            refine (CX.out _).mono ?_
            rintro e w7 ⟨rfl, g7⟩
            have K7 := Lib.hid (next0 K6.out g7.1)
            clear g7 y1 y2 y3 y4 y5 z1 z2 z3 z4 z5
            obtain ⟨⟨y1, y2, y3, y4, y5⟩, z1, z2, z3, z4, z5⟩ := HH.out w7 K7.out
            go_wp2_with fail
            refine (CY.out _).mono ?_
            rintro e w8 ⟨rfl, g8⟩
            have K8 := Lib.hid (next0 K7.out g8.1)
            clear g8 y1 y2 y3 y4 y5 z1 z2 z3 z4 z5
            obtain ⟨⟨y1, y2, y3, y4, y5⟩, z1, z2, z3, z4, z5⟩ := HH.out w8 K8.out
            go_wp2_with fail
            refine (BX.out (by trivial) _ K8.out).mono ?_
            rintro e w9 ⟨v9, f9, rfl, h1, h2, k9⟩
            have D9 := Lib.hid (next0 (next0 K1.out K8.out) k9)
            have H9 := Lib.hid (And.intro h1 h2)
            clear h1 h2 k9
            go_wp2_with fail
            refine bodyPost_ret (v := .tuple #[v9, .bool f9]) (by simp [results, Tryz.results58, go_sem]) rfl ?_
            unfold BndR
            exact ⟨v9, f9, rfl, H9.out.1, H9.out.2, D9.out⟩
          case false =>
            have HQ3 : Hid ((if (zn && decide (xl = yl)) = true then solveL (solveP n) x.args y.args s else some none) = some o) := Lib.hid (by simpa using HQ2.out)
            clear HQ2 BX BY
            obtain ⟨⟨y1, y2, y3, y4, y5⟩, z1, z2, z3, z4, z5⟩ := HH.out w5 K5.out
            go_wp2_with fail
            refine (CX.out _).mono ?_
            rintro e w6 ⟨rfl, g6⟩
            have K6 := Lib.hid (next0 K5.out g6.1)
            clear g6 y1 y2 y3 y4 y5 z1 z2 z3 z4 z5
            obtain ⟨⟨y1, y2, y3, y4, y5⟩, z1, z2, z3, z4, z5⟩ := HH.out w6 K6.out
            go_wp2_with fail
            refine (CX.out _).mono ?_
            rintro e w7 ⟨rfl, g7⟩
            have K7 := Lib.hid (next0 K6.out g7.1)
            clear g7 y1 y2 y3 y4 y5 z1 z2 z3 z4 z5
            obtain ⟨⟨y1, y2, y3, y4, y5⟩, z1, z2, z3, z4, z5⟩ := HH.out w7 K7.out
            go_wp2_with fail
            refine (CY.out _).mono ?_
            rintro e w8 ⟨rfl, g8⟩
            have K8 := Lib.hid (next0 K7.out g8.1)
            clear g8 y1 y2 y3 y4 y5 z1 z2 z3 z4 z5
            have D8 := Lib.hid (next0 K1.out K8.out)
            clear CX CY
            obtain ⟨⟨y1, y2, y3, y4, y5⟩, z1, z2, z3, z4, z5⟩ := HH.out w8 K8.out
            cases zn
            case false =>
              have e9 : o = none := by simpa using HQ3.out.symm
              subst e9
              clear RX RY hXA hYA HIH SS
              go_wp2_with fail
              refine bodyPost_ret (v := .tuple #[.slice none 0 0, .bool false]) (by simp [results, Tryz.results58, go_sem]) rfl ?_
              unfold BndR
              exact ⟨_, false, rfl, (fun h => by cases h), (fun _ => rfl), D8.out⟩
            case true =>
              by_cases hab : xl = yl
              · subst hab
                have HQ4 : Hid (solveL (solveP n) (x.args.drop 0) (y.args.drop 0) s = some o) := Lib.hid (by simpa using HQ3.out)
                clear HQ3
                obtain ⟨pX, cX, eX, _, _, _, hRX⟩ := RX.out
                obtain ⟨pY, cY, eY, _, _, _, hRY⟩ := RY.out
                injection eX with eX1 _ eX2
                injection eY with eY1 _ eY2
                subst eX1 eY1 eX2 eY2
                have HRX := Lib.hid hRX
                have HRY := Lib.hid hRY
                clear hRX hRY RX RY
                have h63 : xl ≤ 9223372036854775807 := by omega
                clear hlx
                go_wp2_with fail
                clear y1 y2 y3 y4 y5 z1 z2 z3 z4 z5
                go_loopw [2, 8, 9] (fun v kv i wr => ∃ (k : Nat) (ok : Bool) (s' : List Bd), k ≤ xl ∧ kv = .bool ok ∧ i = .int .i64 k ∧ Hid (ok = true → solveL (solveP n) (x.args.drop k) (y.args.drop k) s' = some o ∧ Gd vs s' ∧ Ext s s' ∧ SIn (· < wr.heap.size) wr s' v) ∧ Hid (ok = false → o = none) ∧ Hid (Below w8.heap.size w8 wr)) (fun _ _ i _ => xl - (intOf i).toNat)
                case atStart => exact ⟨0, true, s, Nat.zero_le _, rfl, rfl, Lib.hid (fun _ => ⟨HQ4.out, HIV.out, Ext.refl HIV.out.1, SS.out _ D8.out⟩), Lib.hid (fun h => by cases h), Lib.hid (Below.refl _ _)⟩
                case round =>
                  obtain ⟨k, ok, s', hk, rfl, rfl, hT, hF, hD⟩ := hrel
                  obtain ⟨⟨y1, y2, y3, y4, y5⟩, z1, z2, z3, z4, z5⟩ := HH.out wr (next0 K8.out hD.out)
                  have D5 := Lib.hid (next0 D8.out hD.out)
                  cases ok
                  · have EF : Hid (o = none) := Lib.hid (hF.out rfl)
                    clear hT hF HIH hXA hYA SS HQ4
                    by_cases hlt : k < xl
                    all_goals
                      go_wp2_with fail
                      refine bodyPost_ret (by simp [results, Tryz.results58, go_sem]; rfl) rfl ?_
                      unfold BndR
                      exact ⟨_, false, rfl, (fun h => by cases h), (fun _ => EF.out), D5.out⟩
                  · have HQ := Lib.hid (hT.out rfl)
                    clear hT hF
                    by_cases hlt : k < xl
                    · obtain ⟨x9, b, o1, q, d, hx, rfl, hb, e1, e2, hxs, hxn⟩ := (Row.deep HRX.out (next0 K8.out hD.out) (Nat.le_refl _)) k (by rw [HXL.out]; exact hlt)
                      obtain ⟨y9, b2, o2, q2, d2, hy, rfl, hb2, u1, u2, hys, hyn⟩ := (Row.deep HRY.out (next0 K8.out hD.out) (Nat.le_refl _)) k (by rw [HYL.out]; exact hlt)
                      obtain ⟨oc, hoc⟩ : ∃ oc, solveP n x9 y9 s' = some oc := by
                        have e := HQ.out.1
                        rw [solveL_head hx hy] at e
                        cases h : solveP n x9 y9 s' with
                        | none => rw [h] at e; cases e
                        | some oc => exact ⟨oc, rfl⟩
                      have EX : Hid ((match oc with | none => some none | some s'' => solveL (solveP n) (x.args.drop (k + 1)) (y.args.drop (k + 1)) s'') = some o) := Lib.hid (by
                        have e := HQ.out.1
                        rw [solveL_head hx hy, hoc] at e
                        cases oc <;> exact e)
                      have ax := hXA.out x9 (List.mem_of_getElem? hx)
                      have ay := hYA.out y9 (List.mem_of_getElem? hy)
                      have hwr : wc.heap.size ≤ wr.heap.size := (next0 K8.out hD.out).size
                      have CI := Lib.hid (fun w' (g : Below wr.heap.size wr w') => HIH.out x9 y9 s' oc hoc HQ.out.2.1 ax.2.2 ay.2.2 (ax.1.ext HQ.out.2.2.1) (ay.1.ext HQ.out.2.2.1) ax.2.1 ay.2.1 w'.heap.size w' _ _ _ (Nat.le_refl _) ((HQ.out.2.2.2.deep g (Nat.le_refl _)).wide fun b hb => Nat.lt_of_lt_of_le hb g.size) ((hxs.deep g hwr).weaken fun b hb => Nat.lt_of_lt_of_le hb (Nat.le_trans hwr g.size)) ((hys.deep g hwr).weaken fun b hb => Nat.lt_of_lt_of_le hb (Nat.le_trans hwr g.size)) hxn hyn)
                      have NX := Lib.hid (fun s'' (e : oc = some s'') => show solveL (solveP n) (x.args.drop (k + 1)) (y.args.drop (k + 1)) s'' = some o ∧ Gd vs s'' ∧ Ext s s'' from by
                        subst e
                        have h1 := solve_ok n x9 y9 s' _ hoc HQ.out.2.1.1 ax.2.2.1 ay.2.2.1
                        have h2 := solve_keys n x9 y9 s' s'' hoc HQ.out.2.1.1 ax.2.2.1 ay.2.2.1 ax.2.2.2 ay.2.2.2 HQ.out.2.1.2
                        exact ⟨EX.out, ⟨h2.1, h2.2⟩, HQ.out.2.2.1.trans (Ext.of h1)⟩)
                      have NN2 := Lib.hid (fun (e : oc = none) => show o = none from by
                        subst e
                        have := EX.out
                        simpa using this.symm)
                      clear hx hy hxs hxn hys hyn ax ay hoc EX HIH hXA hYA SS HQ
                      generalize x9.nm = xn9 at *
                      generalize x9.args.length = xa at *
                      generalize y9.nm = yn9 at *
                      generalize y9.args.length = ya at *
                      unfold BndR at CI
                      go_wp2_with fail
                      go_region_with (first
                        | (go_at_call 58; (with_reducible refine (CI.out _ (by first | exact Below.refl _ _ | exact (Below.refl _ _).drew | exact below_drewN (Below.refl _ _) _)).mono ?_); rintro e w6 ⟨v6, f, rfl, h1, h2, hb6⟩; have D6 : Hid (Below wr.heap.size wr w6) := Lib.hid (by first | exact hb6 | exact next0 (Below.refl _ _).drew hb6 | exact next0 (below_drewN (Below.refl _ _) _) hb6); have H6 := Lib.hid (And.intro h1 h2); clear h1 h2 hb6))
                      all_goals
                        go_wp2_with fail
                        go_roundw
                        case rel =>
                          cases f
                          · exact ⟨k + 1, false, [], by omega, rfl, by go_num, Lib.hid (fun h => by cases h), Lib.hid (fun _ => NN2.out (H6.out.2 rfl)), Lib.hid (next0 hD.out D6.out)⟩
                          · obtain ⟨s9, hs9, hI9⟩ := H6.out.1 rfl
                            obtain ⟨q1, q2, q3⟩ := NX.out s9 hs9
                            exact ⟨k + 1, true, s9, by omega, rfl, by go_num, Lib.hid (fun _ => ⟨q1, q2, q3, hI9⟩), Lib.hid (fun h => by cases h), Lib.hid (next0 hD.out D6.out)⟩
                        case measure => simp [intOf]; omega
                    · obtain rfl : k = xl := by omega
                      have EF : Hid (o = some s') := Lib.hid (by
                        have e := HQ.out.1
                        rw [solveL_end (by rw [HXL.out]; exact Nat.le_refl _)] at e
                        injection e with e
                        exact e.symm)
                      have I9 := Lib.hid HQ.out.2.2.2
                      clear HQ HIH hXA hYA SS HQ4
                      go_wp2_with fail
                      refine bodyPost_ret (by simp [results, Tryz.results58, go_sem]; rfl) rfl ?_
                      unfold BndR
                      exact ⟨_, true, rfl, (fun _ => ⟨s', EF.out, I9.out⟩), (fun h => by cases h), D5.out⟩
              · have hai : ((xl : Int) == (yl : Int)) = false := by rw [beq_eq_false_iff_ne]; omega
                have haj : ((xl : Int) != (yl : Int)) = true := by rw [bne, hai]; rfl
                have e9 : o = none := by
                  have := HQ3.out
                  simp only [hab, decide_false, Bool.and_false, Bool.false_eq_true, if_false] at this
                  injection this with this
                  exact this.symm
                subst e9
                clear hab RX RY hXA hYA HIH SS HQ3
                go_wp2_with fail
                refine bodyPost_ret (v := .tuple #[.slice none 0 0, .bool false]) (by simp [results, Tryz.results58, go_sem]) rfl ?_
                unfold BndR
                exact ⟨_, false, rfl, (fun h => by cases h), (fun _ => rfl), D8.out⟩
end UnuJ
end Go.Proofs.YtaenalpckloikaaGreatDoor
/- The reference's Unify: what it answers is unifyR. Condition: at most a thousand parts. -/
namespace Go.Proofs.YtaenalpckloikaaGreatDoor
open Go Go.RowKit
namespace UnuK
open LexM TermM TermI Kit TermN TermU TermL UniK UniM UniA UniB UniC UniD UniE UniG UniH UniJ UniO UniL UniR UniY UnmA UnmB UnuA UnuB UnuD UnuE UnuF UnuG UnuH UnuI UnuJ
/-- What is answered once the terms are solved. -/
def Ans (o : Option (List Bd)) : Option (List Bd) → Prop
  | none => o = none
  | some s => o = if vldS s = true then some s else none
set_option maxRecDepth 100000 in
set_option maxHeartbeats 1600000 in
theorem runify_any (n : Nat) (a b : Tm) (o : Option (List Bd)) (hU : unifyR n a b = some o) (hz : sizeT a + sizeT b ≤ 1000) (B : Nat) (w : World) (av bv : Value) (hB : B ≤ w.heap.size) (ha : SlIn (· < B) w a.args av) (hb : SlIn (· < B) w b.args bv) (han : a.nm.size ≤ maxLen) (hbn : b.nm.size ≤ maxLen) :
    Calls Tryz.prog 30 #[.agg #[.string a.nm, av], .agg #[.string b.nm, bv]] w (MtR o w) := by
  obtain ⟨pa, ca, rfl⟩ := ha.form
  obtain ⟨pb, cb, rfl⟩ := hb.form
  obtain ⟨W2, hW2⟩ : ∃ W2, W2 = (w.alloc (.cells #[.string a.nm, .slice pa a.args.length ca] 27)).alloc (.cells #[.string b.nm, .slice pb b.args.length cb] 27) := ⟨_, rfl⟩
  have B2 : Hid (Below w.heap.size w W2) := Lib.hid (by rw [hW2]; exact ((Gr.alloc _ _).more _).1)
  have H2 : Hid (Has W2 w.heap.size #[.string a.nm, .slice pa a.args.length ca]) := Lib.hid (by rw [hW2]; exact (Has.new w _ _).alloc _)
  have T2 : Hid (Has W2 (w.heap.size + 1) #[.string b.nm, .slice pb b.args.length cb]) := Lib.hid (by rw [hW2]; exact Has.new1 w _ _ _)
  have VA := Lib.hid (fun w' (k : Below w.heap.size w w') => TermV.rvalid_any a B w' _ (Nat.le_trans hB k.size) han (ha.deep k hB))
  have VB := Lib.hid (fun w' (k : Below w.heap.size w w') => TermV.rvalid_any b B w' _ (Nat.le_trans hB k.size) hbn (hb.deep k hB))
  have hvl : (leavesL [a, b]).length ≤ 1000 := by
    have h := leavesL_len [a, b]
    simp only [sizeL] at h
    omega
  have CS := Lib.hid (fun (h1 : validT false 4 a = true) (h2 : validT false 4 b = true) o' (ho : solveP n a b [] = some o') w' (k : Below w.heap.size w w') =>
    rsolve_any (leavesL [a, b]) hvl n a b [] o' ho ⟨inv_nil, fun _ h => by cases h⟩ ⟨⟨4, h1⟩, fun w hw _ => leaves_mem.2 ⟨a, by simp, hw⟩⟩ ⟨⟨4, h2⟩, fun w hw _ => leaves_mem.2 ⟨b, by simp, hw⟩⟩ (Near.of h1) (Near.of h2) (by omega) (by omega) B w' _ _ (.slice none 0 0) (Nat.le_trans hB k.size) (SIn.nil _ _) (ha.deep k hB) (hb.deep k hB) han hbn)
  have CV := Lib.hid (fun s (w' : World) v (h : SIn (· < w'.heap.size) w' s v) => rvalid_any s w'.heap.size w' v (Nat.le_refl _) h)
  unfold unifyR at hU
  unfold BndR at CS
  obtain ⟨va, hva⟩ : ∃ z, validT false 4 a = z := ⟨_, rfl⟩
  obtain ⟨vb, hvb⟩ : ∃ z, validT false 4 b = z := ⟨_, rfl⟩
  rw [hva] at VA hU CS
  rw [hvb] at VB hU CS
  clear ha hb hB han hbn hz hva hvb hvl
  generalize solveP n a b [] = os at *
  generalize a.nm = an at *
  generalize a.args.length = al at *
  generalize b.nm = bn at *
  generalize b.args.length = bl at *
  obtain ⟨y1, y2, y3, y4, y5⟩ := H2.out.two
  go_enter Tryz.func30, Tryz.ntmps30
  go_upto_region 1 with fail
  rw [← hW2]
  clear hW2
  go_wp2_with fail
  refine (VA.out _ B2.out).mono ?_
  rintro e w3 ⟨rfl, g3⟩
  have D3 := Lib.hid (next0 B2.out g3.1)
  have H3 := Lib.hid (H2.out.step0 g3.1)
  have T3 := Lib.hid (T2.out.step0 g3.1)
  clear VA g3 H2 T2 B2 y1 y2 y3 y4 y5
  cases va
  · have e9 : o = none := by simpa using hU.symm
    subst e9
    clear CS CV VB
    go_wp2_with fail
    refine bodyPost_ret (v := .tuple #[.slice none 0 0, .bool false]) (by simp [results, Tryz.results30, go_sem]) rfl ?_
    unfold MtR
    exact ⟨_, false, rfl, (fun h => by cases h), (fun _ => ⟨rfl, rfl⟩), D3.out⟩
  obtain ⟨z1, z2, _⟩ := T3.out.two
  go_wp2_with fail
  refine (VB.out _ D3.out).mono ?_
  rintro e w4 ⟨rfl, g4⟩
  have D4 := Lib.hid (next0 D3.out g4.1)
  have H4 := Lib.hid (H3.out.step0 g4.1)
  have T4 := Lib.hid (T3.out.step0 g4.1)
  clear VB g4 H3 T3 D3 z1 z2
  cases vb
  · have e9 : o = none := by simpa using hU.symm
    subst e9
    clear CS CV
    go_wp2_with fail
    refine bodyPost_ret (v := .tuple #[.slice none 0 0, .bool false]) (by simp [results, Tryz.results30, go_sem]) rfl ?_
    unfold MtR
    exact ⟨_, false, rfl, (fun h => by cases h), (fun _ => ⟨rfl, rfl⟩), D4.out⟩
  obtain ⟨o', rfl⟩ : ∃ o', os = some o' := by
    cases os with
    | none => simp at hU
    | some z => exact ⟨z, rfl⟩
  have HO : Hid (Ans o o') := Lib.hid (by
    cases o' with
    | none => exact (by simpa using hU.symm : o = none)
    | some s => exact (by simpa using hU.symm : o = if vldS s = true then some s else none))
  have CS4 := Lib.hid (CS.out (by trivial) (by trivial) o' rfl w4 D4.out)
  clear hU CS
  obtain ⟨y1, y2, _⟩ := H4.out.two
  obtain ⟨z1, z2, _⟩ := T4.out.two
  go_wp2_with fail
  refine CS4.out.mono ?_
  rintro e w5 ⟨v5, f5, rfl, h1, h2, k5⟩
  have D5 := Lib.hid (next0 D4.out k5)
  have H5 := Lib.hid (And.intro h1 h2)
  clear h1 h2 k5 CS4 H4 T4 y1 y2 z1 z2
  cases f5
  · have e8 := H5.out.2 rfl
    subst e8
    have e9 : o = none := HO.out
    subst e9
    clear CV H5
    go_wp2_with fail
    refine bodyPost_ret (v := .tuple #[.slice none 0 0, .bool false]) (by simp [results, Tryz.results30, go_sem]) rfl ?_
    unfold MtR
    exact ⟨_, false, rfl, (fun h => by cases h), (fun _ => ⟨rfl, rfl⟩), D5.out⟩
  · obtain ⟨s, e8, hS⟩ := H5.out.1 rfl
    subst e8
    have e9 : o = if vldS s = true then some s else none := HO.out
    have CV5 := Lib.hid (CV.out s w5 v5 hS)
    have S5 := Lib.hid (fun w' (k : Below w5.heap.size w5 w') => (hS.deep k (Nat.le_refl _)).wide (ok' := (· < w'.heap.size)) fun b hb => Nat.lt_of_lt_of_le hb k.size)
    have HO2 := Lib.hid e9
    clear hS H5 CV HO e9
    obtain ⟨z, hzv⟩ : ∃ z, vldS s = z := ⟨_, rfl⟩
    rw [hzv] at CV5 HO2
    clear hzv
    go_wp2_with fail
    refine CV5.out.mono ?_
    rintro e w6 ⟨rfl, g6⟩
    have D6 := Lib.hid (next0 D5.out g6.1)
    have S6 := Lib.hid (S5.out w6 g6.1)
    clear g6 CV5 S5
    cases z
    · have e9 : o = none := by simpa using HO2.out
      subst e9
      clear S6
      go_wp2_with fail
      refine bodyPost_ret (v := .tuple #[.slice none 0 0, .bool false]) (by simp [results, Tryz.results30, go_sem]) rfl ?_
      unfold MtR
      exact ⟨_, false, rfl, (fun h => by cases h), (fun _ => ⟨rfl, rfl⟩), D6.out⟩
    · have e9 : o = some s := by simpa using HO2.out
      subst e9
      go_wp2_with fail
      refine bodyPost_ret (v := .tuple #[v5, .bool true]) (by simp [results, Tryz.results30, go_sem]) rfl ?_
      unfold MtR
      exact ⟨_, true, rfl, (fun _ => ⟨s, rfl, S6.out⟩), (fun h => by cases h), D6.out⟩
end UnuK
end Go.Proofs.YtaenalpckloikaaGreatDoor
