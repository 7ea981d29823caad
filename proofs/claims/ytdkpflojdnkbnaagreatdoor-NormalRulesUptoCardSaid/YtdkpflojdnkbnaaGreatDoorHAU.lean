/- Texts laid together: LihD. Their own heads stand before each. -/
import Derived.Test.YtdkpflojdnkbnaaGreatDoorHAS
import Derived.Deep.DeepCutAuto
import Derived.Test.YtdkpflojdnkbnaaGreatDoorHAT
import Derived.Deep.RegionHeld3
/- gameplayerplain.Light: rules evaluated round by round. Conditions: at most a thousand rules of at most eight literals, all atoms of at most twenty parts, short names; good given atoms. -/
namespace Go.Proofs.YtdkpflojdnkbnaaGreatDoor
open Go Go.RowKit Go.Maps Go.WideMaps
namespace LihD
open Kit LexM TermM TermI TermN TermU TermE UniM UniK UniA UniD UniE UniG UniR LigM LigP LigG LigD LigQ LigE LigW LigV LigU LigX LigY LigZ UnmB
theorem slin_far2 {ok : Nat → Prop} {w : World} {k : Nat} {l : List Tm} {v : Value} (h : SlIn ok w l v) (hk : ∀ b, ok b → b ≠ k) (a b : Value) : SlIn ok ((w.setCell ⟨k, 0, none⟩ a).setCell ⟨k, 1, none⟩ b) l v :=
  h.frame fun g o hg => by rw [cell_far (by show g ≠ k; exact hk g hg), cell_far (by show g ≠ k; exact hk g hg)]
/-- The state between the closure's calls. -/
def OS (N A b : Nat) (w0 w : World) : Prop := ∃ (L : List (Tm × Value)) (M : List ByteArray) (av : Value) (lf : Int), St N ((N + 3) * 20 ^ 4) (20 ^ 4) A w L M av ∧ Has w A #[.int .i64 lf] ∧ 0 ≤ lf ∧ lf ≤ 1000000 ∧ L.length ≤ b ∧ Below A w0 w
theorem os_add {N A b : Nat} {w0 w w' : World} {L : List (Tm × Value)} {M : List ByteArray} {av : Value} {lf : Int} {e : Ending} (S : St N ((N + 3) * 20 ^ 4) (20 ^ 4) A w L M av) (H : Has w A #[.int .i64 lf]) (h0 : 0 ≤ lf) (h1 : lf ≤ 1000000) (hb : L.length ≤ b) (D : Below A w0 w) (h : AddQ N A w L av e w') : OS N A (b + 1) w0 w' := by
  obtain ⟨_, L', M', av', S', _, hl, lt, _⟩ := h
  have hA := S.cell.lt
  have ho := S.own.1.lt
  refine ⟨L', M', av', lf, S', lt.has H (fun e => ?_), h0, h1, by omega, D.trans (lt.toBelow (by omega) fun i e => ?_)⟩
  · rcases e with e | e | e
    · omega
    · omega
    · have := ho _ e; omega
  · rcases e with e | e | e
    · omega
    · omega
    · have := ho _ e; omega
theorem Ch.lt {ex : Nat → Prop} {r : Nat} {a b c : World} (h : Ch r a b) (g : Lt ex b c) (hx : ∀ i, ex i → a.heap.size ≤ i) : Ch r a c :=
  ⟨g.os.trans h.os, g.tape.trans h.tape, g.output.trans h.output, Nat.le_trans h.size g.size, fun i hi hn => (g.block i (Nat.lt_of_lt_of_le hi h.size) (fun e => by have := hx i e; omega)).trans (h.block i hi hn)⟩
/-- instance, called where the ways were made. -/
theorem ci_i {κ : Nat → Prop} {N : Nat} {w5 wr w' : World} {t : Tm} {ps : List Bd} {tv pv : Value} (hN : (N + 3) * 4000000 ≤ 4611686018427387904) (hκ : ∀ b, κ b → b < w5.heap.size) (h5 : w5.heap.size ≤ wr.heap.size) (hps : GP N ((N + 3) * 20 ^ 4) (20 ^ 4) ps) (hpl : ps.length ≤ 1000000) (ht : SlIn κ wr t.args tv) (hp : PIn κ wr ps pv)
    (hn : t.nm.size ≤ maxLen) (hG : GN N t) (hz : sizeT t ≤ 20) (kb : Below wr.heap.size wr w') :
    Calls Tryz.prog 86 #[.agg #[.string t.nm, tv], pv] w' (fun e w'' => ∃ (u : Tm) (q9 : Option Addr) (d9 : Nat) (f : Bool) (lo : Nat), e = .returned (.tuple #[.agg #[.string u.nm, .slice q9 u.args.length d9], .bool f]) ∧ lo = w'.heap.size ∧ SlIn (fun b => κ b ∨ (lo ≤ b ∧ b < w''.heap.size)) w'' u.args (.slice q9 u.args.length d9) ∧ u.nm.size ≤ maxLen ∧ (f = true → Gm N u) ∧ Below w'.heap.size w' w'') := by
  have hk : ∀ b, κ b → b < wr.heap.size := fun b hb => Nat.lt_of_lt_of_le (hκ b hb) h5
  have hsz := kb.size
  refine (instance_any N ((N + 3) * 20 ^ 4) (20 ^ 4) ps hps (by omega) hpl t κ wr.heap.size w' tv pv hk hsz (ht.frame fun b o hb => kb.cell (p := ⟨b, o, none⟩) (hk b hb)) (hp.keep fun b o hb => kb.cell (p := ⟨b, o, none⟩) (hk b hb)) hn hG).mono ?_
  rintro e w'' ⟨u, q, d, f, he, h1, h2, h3, h4⟩
  exact ⟨u, q, d, f, _, he, rfl, h1, h2, fun hf => gm_inst hN hG hz (h3 hf), h4⟩
theorem kap3 {ok3 : Nat → Prop} {B3 s t : Nat} {v : Value} (h1 : ∀ b, ok3 b → b < B3) (hB : B3 ≤ s) (hst : s ≤ t) (hv : ∀ k, v.ownBlock = some k → B3 ≤ k ∧ k < s) : ∀ b, (ok3 b ∨ (s ≤ b ∧ b < t)) → b < t ∧ (ok3 b ∨ B3 ≤ b) ∧ v.ownBlock ≠ some b := fun b hb => by
  rcases hb with hb | hb
  · have := h1 b hb
    exact ⟨by omega, Or.inl hb, fun e => by have := hv b e; omega⟩
  · exact ⟨hb.2, Or.inr (by omega), fun e => by have := hv b e; omega⟩
theorem okq2 {κ : Nat → Prop} {lo hi c : Nat} (h : ∀ b, κ b → b < c) (h2 : hi ≤ c) : ∀ b, (κ b ∨ (lo ≤ b ∧ b < hi)) → b < c := fun b hb => hb.elim (h b) fun h => Nat.lt_of_lt_of_le h.2 h2
theorem okn2 {κ : Nat → Prop} {a lo hi g : Nat} (h : ∀ b, κ b → b < a) (h1 : a ≤ g) (h2 : g < lo ∨ hi ≤ g) : ∀ b, (κ b ∨ (lo ≤ b ∧ b < hi)) → b ≠ g := fun b hb e => by
  rcases hb with hb | hb
  · have := h b hb; omega
  · omega
/-- What is taken into the row of new atoms lies apart from it. -/
theorem okm {κ ok3 : Nat → Prop} {B3 a r c : Nat} {v : Value} {mo : Option Nat} (h1 : ∀ b, κ b → b < a ∧ (ok3 b ∨ B3 ≤ b) ∧ mo ≠ some b) (hB : B3 ≤ r) (ha : a ≤ r) (hrc : r ≤ c) (hv : ∀ k, v.ownBlock = some k → k < r) (hw : ∀ k, v.ownBlock = some k → mo = some k ∨ a ≤ k) :
    ∀ b, (κ b ∨ (r ≤ b ∧ b < c)) → (ok3 b ∨ B3 ≤ b) ∧ b < c ∧ v.ownBlock ≠ some b := fun b hb => by
  rcases hb with hb | hb
  · obtain ⟨a1, a2, a3⟩ := h1 b hb
    refine ⟨a2, by omega, fun e => ?_⟩
    rcases hw b e with h | h
    · exact a3 h
    · omega
  · exact ⟨Or.inr (by omega), hb.2, fun e => by have := hv b e; omega⟩
theorem Lt.trans2 {ex ex' : Nat → Prop} {a b c : World} (h : Lt ex a b) (k : Lt ex' b c) (hx : ∀ i, ex' i → ex i ∨ a.heap.size ≤ i) : Lt ex a c := ⟨k.os.trans h.os, k.tape.trans h.tape, k.output.trans h.output, Nat.le_trans h.size k.size, fun i hi hn => (k.block i (Nat.lt_of_lt_of_le hi h.size) (fun e => by rcases hx i e with h | h; exact hn h; omega)).trans (h.block i hi hn)⟩
theorem own_row {ok0 : Nat → Prop} {base : Nat} {w : World} {L : List (Tm × Value)} {p : Option Addr} {n c : Nat} (h : OwnA ok0 base w L (.slice p n c)) (k : Nat) (hk : k < L.length) : ∃ (x : Tm × Value) (g : Nat) (q : Option Addr) (d : Nat) (ok : Nat → Prop), L[k]? = some x ∧ p = some ⟨g, 0, none⟩ ∧ (base ≤ g ∧ g < w.heap.size) ∧ w.cell? ⟨g, k * 2, none⟩ = some (.string x.1.nm) ∧
    w.cell? ⟨g, k * 2 + 1, none⟩ = some (.slice q x.1.args.length d) ∧ (∀ b, ok b → (ok0 b ∨ base ≤ b) ∧ b < w.heap.size) ∧ SlIn ok w x.1.args (.slice q x.1.args.length d) ∧ x.1.nm.size ≤ maxLen := by
  obtain ⟨h1, ok, h2, h3⟩ := h
  have hl := h1.lt
  rcases h1.2 with ⟨_, hz⟩ | ⟨g, cap, cur, e, _⟩
  · omega
  · cases e
    obtain ⟨x, hx⟩ : ∃ x, L[k]? = some x := ⟨L[k], by simp [hk]⟩
    obtain ⟨f1, f2⟩ := flatL_get L k x hx
    have hxs := h3 x (List.mem_of_getElem? hx)
    obtain ⟨q, d, eq⟩ := hxs.1.form
    refine ⟨x, g, q, d, ok, hx, rfl, hl g rfl, (h1.cellAt _ (by omega)).trans f1, ?_, fun b hb => ⟨(h2 b hb).1, (h2 b hb).2.1⟩, by rw [← eq]; exact hxs.1, hxs.2⟩
    rw [h1.cellAt _ (by omega), f2, eq]
theorem hok_old {N K Z A : Nat} {w : World} {L : List (Tm × Value)} {M : List ByteArray} {av : Value} (S : St N K Z A w L M av) : ∀ b, b < A → (b < A ∨ A + 4 ≤ b) ∧ b < w.heap.size ∧ av.ownBlock ≠ some b := fun b hb => by
  have hA := S.cell.lt
  exact ⟨Or.inl hb, by omega, fun e => by have := S.own.1.lt _ e; omega⟩
theorem own_cap {ok0 : Nat → Prop} {base : Nat} {w : World} {L : List (Tm × Value)} {va : Option Addr} {n vc : Nat} (h : OwnA ok0 base w L (.slice va n vc)) (hn : n = L.length) : n ≤ vc ∧ vc ≤ maxLen := by
  rcases h.1.2 with ⟨e, hz⟩ | ⟨g, cap, cur, e, e2, e3, e4, e5, _⟩
  · cases e
    exact ⟨Nat.le_refl _, Nat.zero_le _⟩
  · cases e
    exact ⟨by omega, e5⟩
set_option maxRecDepth 100000 in
set_option maxHeartbeats 12800000 in
theorem light_any (N : Nat) (h4 : 4 ≤ N) (hN : (N + 3) * 4000000 ≤ 4611686018427387904) (l : List Rl) (given : List Tm) (w0 : World) (lv gv : Value) (hl : RIn (· < w0.heap.size) w0 l lv) (hg : SlIn (· < w0.heap.size) w0 given gv) (hll : l.length ≤ 1000) (hgl : given.length ≤ 1000000)
    (hr : ∀ r ∈ l, GN N r.1 ∧ sizeT r.1 ≤ 20 ∧ r.2.length ≤ 8 ∧ ∀ x ∈ r.2, sizeT x.2 ≤ 20) (hgv : ∀ t ∈ given, Gm N t) :
    Calls Tryz.prog 47 #[lv, gv] w0 (fun e w' => (∃ b, e = .returned (.bool b)) ∧ Below w0.heap.size w0 w') := by
  obtain ⟨i0, hi, hz0, hz1, hz2⟩ := info_parts Tryz.info28
  obtain ⟨lp, lc, rfl⟩ := hl.form
  obtain ⟨gp, gc, rfl⟩ := hg.form
  obtain ⟨A, hA⟩ : ∃ A, A = w0.heap.size := ⟨_, rfl⟩
  have HA := Lib.hid hA
  have RL := Lib.hid (fun w' (k : Below A w0 w') => hl.keep (w' := w') fun b o hb => k.cell (p := ⟨b, o, none⟩) (by rw [hA]; exact hb))
  have GV := Lib.hid (fun w' (k : Below A w0 w') => hg.frame (w' := w') fun b o hb => k.cell (p := ⟨b, o, none⟩) (by rw [hA]; exact hb))
  have HR := Lib.hid hr
  have HG := Lib.hid hgv
  have H4 := Lib.hid h4
  have HN := Lib.hid hN
  generalize hnl : l.length = nl at *
  have HNL := Lib.hid hnl
  generalize hng : given.length = ng at *
  have HNG := Lib.hid hng
  clear hl hg hr hgv h4 hN hnl hng
  have hmm := @run_makeMap Tryz.prog
  go_enter Tryz.func47, Tryz.ntmps47
  go_upto_region 5 with fail
  obtain ⟨W4, hW4⟩ : ∃ W4, W4 = (((w0.alloc (.cells #[.int .i64 1000000] 112)).alloc (.map #[] 0)).alloc (.cells #[.map (some (w0.heap.size + 1))] 74)).alloc (.cells #[.slice none 0 0] 22) := ⟨_, rfl⟩
  have O4 : Hid (OS N A 0 w0 W4) := Lib.hid (by
    rw [hW4, hA]
    refine ⟨[], [], .slice none 0 0, 1000000, ⟨(Has.new2 _ _ _ _ _).alloc _, Has.new3 _ _ _ _ _ _, OwnA.nil _ _ _, ?_, (fun x hx => by cases hx), (fun x hx => by cases hx)⟩, (((Has.new _ _ _).alloc _).alloc _).alloc _, by omega, Int.le_refl _, Nat.le_refl _, next0 (next0 (next0 (below_alloc _ _) (below_alloc _ _)) (below_alloc _ _)) (below_alloc _ _)⟩
    have := World.ownsMap_made (H := Unit) (w0.alloc (.cells #[.int .i64 1000000] 112)) Tryz.prog 9 (plainElem (H := Unit) Tryz.prog 4)
    rw [World.size_alloc] at this
    exact (this.alloc _).alloc _)
  rw [← hW4]
  clear hW4 hmm
  simp only [← hA]
  clear hA
  go_wp2_with fail
  go_loopw [27] (fun i wr => ∃ k : Nat, k ≤ ng ∧ i = .int .i64 k ∧ Hid (OS N A k w0 wr)) (fun i _ => ng - (intOf i).toNat)
  case atStart => exact ⟨0, Nat.zero_le _, rfl, O4⟩
  case round =>
    obtain ⟨k, hk, rfl, hOS⟩ := hrel
    by_cases hlt : k < ng
    · obtain ⟨L, M, av, lf, S, H, h0, h1, hb, D⟩ := hOS.out
      obtain ⟨t, b, o, q, d, ht, rfl, hbl, c1, c2, hs, hn⟩ := slin_at (GV.out wr D) k (by rw [HNG.out]; exact hlt)
      have G := HG.out t (List.mem_of_getElem? ht)
      have CA := Lib.hid (add_any N A wr L M av S (by omega) t (.slice q t.args.length d) (· < A) (hok_old S) (hs.weaken fun b hb => by rw [HA.out]; exact hb) hn G.1 G.2.1 G.2.2)
      have SS := Lib.hid (And.intro S (And.intro H (And.intro h0 (And.intro h1 (And.intro hb D)))))
      clear S H h0 h1 hb D ht hs hn G hOS
      generalize t.nm = tn at *
      generalize t.args.length = ta at *
      go_wp2_with fail
      refine CA.out.mono ?_
      intro e w5 h5
      have OO := Lib.hid (os_add SS.out.1 SS.out.2.1 SS.out.2.2.1 SS.out.2.2.2.1 SS.out.2.2.2.2.1 SS.out.2.2.2.2.2 h5)
      obtain ⟨rfl, _⟩ := h5
      go_wp2_with fail
      go_roundw
      case rel => exact ⟨k + 1, by omega, by go_num, OO⟩
      case measure => simp [intOf]; omega
    · obtain rfl : k = ng := by omega
      go_wp2_with fail
      go_loopw [10] (fun n wr => ∃ m : Int, n = .int .i64 m ∧ -1 ≤ m ∧ m ≤ 1000 ∧ Hid (OS N A 10000000 w0 wr)) (fun n _ => (1002 - intOf n).toNat)
      case atStart =>
        obtain ⟨L, M, av, lf, S, H, h0, h1, hb, D⟩ := hOS.out
        exact ⟨-1, rfl, by omega, by omega, Lib.hid ⟨L, M, av, lf, S, H, h0, h1, by omega, D⟩⟩
      case round =>
        clear hOS O4 HG GV HNG hgl
        obtain ⟨m, rfl, hm0, hm1, hOS⟩ := hrel
        obtain ⟨wa, hwa⟩ : ∃ z, z = wr := ⟨_, rfl⟩
        subst hwa
        obtain ⟨L, M, av, lf, S, H, h0, h1, hb, D⟩ := hOS.out
        obtain ⟨va, vc, rfl⟩ := S.own.form
        have c1 := S.cell.cell 0
        have c2 := S.cell.free 0
        have c3 := S.cell.lt
        have hcap := own_cap S.own rfl
        have SS := Lib.hid S
        have HH := Lib.hid H
        have DD := Lib.hid D
        clear S H D hOS
        by_cases hc2 : L.length ≤ 1000
        · have hi2 : ((L.length : Nat) : Int) ≤ 1000 := by omega
          by_cases hc : m < (L.length : Int)
          · have hci : ((L.length : Nat) : Int) ≤ (vc : Int) := by omega
            obtain ⟨ok3, hok3⟩ : ∃ f : Nat → Prop, f = okz A wa.heap.size (.slice va L.length vc) := ⟨_, rfl⟩
            obtain ⟨B3, hB3⟩ : ∃ B, B = wa.heap.size := ⟨_, rfl⟩
            have hA3 : A + 4 ≤ B3 := by rw [hB3]; exact c3
            have HK1 : Hid (∀ b, ok3 b → (b < A ∨ A + 4 ≤ b) ∧ b < B3 ∧ (Value.slice va L.length vc).ownBlock ≠ some b) := Lib.hid (by rw [hok3, hB3]; exact fun b h => h)
            have HK2 : Hid (∀ b, b < A → ok3 b) := Lib.hid (by rw [hok3]; exact fun b hb => hok_old SS.out b hb)
            have AT3 : Hid (∀ w', Ch A wa w' → AtR ok3 A w' (L.map (·.1)) (.slice va L.length vc)) := Lib.hid (fun w' g => by
              rw [hok3]
              exact (own_at SS.out.own).ch g fun b hb => ⟨hb.2.1, by rcases hb.1 with h | h <;> omega⟩)
            have S3 := Lib.hid (fun w' (g : Ch A wa w') => St.ch SS.out g)
            have DW : Hid (∀ w', Ch A wa w' → Below A w0 w') := Lib.hid (fun w' g => DD.out.trans (g.toBelow (Nat.le_refl _) (by omega)))
            have RL3 := Lib.hid (fun w' (g : Ch A wa w') => RL.out w' (DW.out w' g))
            have GA3 : Hid (∀ t ∈ L.map (·.1), GT N ((N + 3) * 20 ^ 4) (20 ^ 4) t) := Lib.hid (fun t ht => by
              obtain ⟨x, hx, rfl⟩ := List.mem_map.1 ht
              exact SS.out.good x hx)
            have LL3 : Hid ((L.map (·.1)).length ≤ 1000) := Lib.hid (by rw [List.length_map]; exact hc2)
            have hsz3 : B3 ≤ wa.heap.size := by omega
            have C3 : Hid (Ch A wa wa) := Lib.hid (Ch.refl _ _)
            clear hok3
            go_wp2_with fail
            go_loopw [12, 53] (fun mv i ws => ∃ (k : Nat) (Lm : List (Tm × Value)) (lf : Int), k ≤ nl ∧ i = .int .i64 k ∧ 0 ≤ lf ∧ lf ≤ 1000000 ∧ Lm.length ≤ k * 5001 ∧ Hid (OwnA ok3 B3 ws Lm mv) ∧ Hid (∀ y ∈ Lm, Gm N y.1) ∧ Hid (Has ws A #[.int .i64 lf]) ∧ Hid (Ch A wa ws)) (fun _ i _ => nl - (intOf i).toNat)
            case atStart => exact ⟨0, [], lf, Nat.zero_le _, rfl, h0, h1, Nat.zero_le _, Lib.hid (OwnA.nil _ _ _), Lib.hid (fun y hy => by cases hy), HH, C3⟩
            case round =>
              clear h0 h1 HH lf c1 c2 c3
              obtain ⟨k, Lm, lf, hk, rfl, h0, h1, hLl, hO, hM, hH, hC⟩ := hrel
              by_cases hlt : k < nl
              · obtain ⟨x, g, o, q, d, q2, d2, hx, rfl, hg, e1, e2, e3, hxs, hxn, hxl⟩ := rin_row (RL3.out wr hC.out) k (by rw [HNL.out]; exact hlt)
                have RX := Lib.hid (HR.out x (List.mem_of_getElem? hx))
                have hszr : B3 ≤ wr.heap.size := by have := hC.out.size; omega
                have hAr : A + 4 ≤ wr.heap.size := by omega
                have CW := Lib.hid (ways_any ok3 N ((N + 3) * 20 ^ 4) (20 ^ 4) x.2 (L.map (·.1)) RX.out.2.2.1 RX.out.2.2.2 LL3.out GA3.out wr A lf (.slice q2 x.2.length d2) (.slice va L.length vc) hH.out h0 h1 (fun b hb => by have := HK1.out b hb; exact ⟨by omega, by omega⟩) (hxl.wide fun b hb => by have := HA.out; omega) (AT3.out wr hC.out))
                obtain ⟨ma, mc, rfl⟩ := hO.out.form
                have XS := Lib.hid (And.intro hxs hxn)
                have hgA : g < A := by rw [HA.out]; exact hg
                clear hx hxs hxn hxl hg
                unfold WQ at CW
                generalize hx2 : x.2.length = x2l at *
                clear hx2
                go_wp2_with fail
                refine CW.out.mono ?_
                rintro e w5 ⟨v5, f, rfl, hq, hc5⟩
                have HQ := Lib.hid hq
                have C5 := Lib.hid hc5
                have C05 := Lib.hid (Ch.trans hC.out hc5)
                clear hq hc5 CW
                cases f
                · go_wp2_with fail
                  refine bodyPost_ret (by simp [results, Tryz.results47, go_sem]; rfl) rfl ?_
                  exact ⟨by simp, by rw [← HA.out]; exact DW.out _ C05.out⟩
                · obtain ⟨qs, lf5, hQ, hql, hqs, g0, g1, hH5⟩ := HQ.out rfl
                  obtain ⟨pq, cq, rfl⟩ := hQ.form
                  have hszw : wr.heap.size ≤ w5.heap.size := C5.out.size
                  obtain ⟨κ, hκ⟩ : ∃ κ : Nat → Prop, κ = fun b => ok3 b ∨ (wr.heap.size ≤ b ∧ b < w5.heap.size) := ⟨_, rfl⟩
                  obtain ⟨mo, hmo⟩ : ∃ m, m = (Value.slice ma Lm.length mc).ownBlock := ⟨_, rfl⟩
                  have hml := hO.out.1.lt
                  have KK : Hid (∀ b, κ b → b < w5.heap.size ∧ (ok3 b ∨ B3 ≤ b) ∧ mo ≠ some b) := Lib.hid (by rw [hκ, hmo]; exact kap3 (fun b hb => (HK1.out b hb).2.1) hszr hszw hml)
                  have KL : Hid (∀ b, κ b → b < w5.heap.size) := Lib.hid (fun b hb => (KK.out b hb).1)
                  have KA : Hid (∀ b, b < A → κ b) := Lib.hid (by rw [hκ]; exact fun b hb => Or.inl (HK2.out b hb))
                  have M1 : Hid (∀ i, mo = some i → B3 ≤ i ∧ i < w5.heap.size) := Lib.hid (fun i e => by have := hml i (by rw [← hmo]; exact e); omega)
                  have QK : Hid (∀ w', Lt (fun b => mo = some b) w5 w' → WIn κ w' qs (.slice pq qs.length cq)) := Lib.hid (fun w' g => by
                    have hQ' : WIn κ w5 qs (.slice pq qs.length cq) := by rw [hκ]; exact hQ
                    exact hQ'.keep fun b o hb => g.cell (KK.out b hb).1 (KK.out b hb).2.2)
                  have E1 := (C5.out.cell (o := o + k * 3) (show g < wr.heap.size by omega) (by omega)).trans e1
                  have E2 := (C5.out.cell (o := o + k * 3 + 1) (show g < wr.heap.size by omega) (by omega)).trans e2
                  have XK : Hid (∀ w', Lt (fun b => mo = some b) w5 w' → SlIn κ w' x.1.args (.slice q x.1.args.length d)) := Lib.hid (fun w' gl => by
                    have a1 : SlIn κ w5 x.1.args (.slice q x.1.args.length d) := (XS.out.1.frame (w' := w5) fun b o hb => C5.out.cell (by have := HA.out; omega) (by have := HA.out; omega)).weaken fun b hb => KA.out b (by rw [HA.out]; exact hb)
                    exact a1.frame fun b o hb => gl.cell (KK.out b hb).1 (KK.out b hb).2.2)
                  have O5 : Hid (OwnA ok3 B3 w5 Lm (.slice ma Lm.length mc)) := Lib.hid (own_lt hO.out (Lt.ofCh C5.out) (fun i e => by subst e; exact ⟨by omega, fun h => by have := (HK1.out _ h).1; omega⟩))
                  have H5 := Lib.hid hH5
                  have GQ := Lib.hid hqs
                  have hmw : ∀ i, (Value.slice ma Lm.length mc).ownBlock = some i → mo = some i ∨ w5.heap.size ≤ i := fun i e => Or.inl (by rw [hmo]; exact e)
                  have MW := Lib.hid hmw
                  have L5 : Hid (Lt (fun b => mo = some b) w5 w5) := Lib.hid (Lt.of (Below.refl _ _))
                  generalize hnq : qs.length = nq at *
                  have HNQ := Lib.hid hnq
                  clear hκ hmo hml hQ hqs hH5 hmw HQ hnq e1 e2 e3 hO hH h0 h1
                  go_wp2_with fail
                  go_loopw [12, 71] (fun mv i wt => ∃ (j : Nat) (Lm' : List (Tm × Value)), j ≤ nq ∧ i = .int .i64 j ∧ Lm'.length ≤ k * 5001 + j ∧ Hid (OwnA ok3 B3 wt Lm' mv) ∧ Hid (∀ y ∈ Lm', Gm N y.1) ∧ Hid (Lt (fun b => mo = some b) w5 wt) ∧ Hid (∀ g, mv.ownBlock = some g → mo = some g ∨ w5.heap.size ≤ g)) (fun _ i _ => nq - (intOf i).toNat)
                  case atStart => exact ⟨0, Lm, Nat.zero_le _, rfl, hLl, O5, hM, L5, MW⟩
                  case round =>
                    clear MW O5 L5 hM
                    obtain ⟨j, Lm', hj, rfl, hLl', hO', hM', hT, hw⟩ := hrel
                    by_cases hjlt : j < nq
                    · obtain ⟨s, g2, o2, q3, d3, hs, rfl, hg2, v1, hps⟩ := win_row (QK.out wr hT.out) j (by rw [HNQ.out]; exact hjlt)
                      have hw5 : w5.heap.size ≤ wr.heap.size := hT.out.size
                      have hg2r : g2 < wr.heap.size := by have := KL.out g2 hg2; omega
                      have u1 := (hT.out.cell (g := g) (o := o + k * 3) (by omega) (fun e => by have := M1.out _ e; omega)).trans E1
                      have u2 := (hT.out.cell (g := g) (o := o + k * 3 + 1) (by omega) (fun e => by have := M1.out _ e; omega)).trans E2
                      have GS := GQ.out s (List.mem_of_getElem? hs)
                      have CI := Lib.hid (fun w' (kb : Below wr.heap.size wr w') => ci_i HN.out KL.out hw5 GS.1 (by have := GS.2; omega) (XK.out wr hT.out) hps XS.out.2 RX.out.1 RX.out.2.1 kb)
                      clear hs hg2 hps GS
                      generalize x.1.nm = xn at *
                      generalize x.1.args.length = xa at *
                      generalize s.length = sl at *
                      go_upto_region 24 with fail
                      go_cut [17, 18] (fun v17 v18 wx => ∃ (g9 : Nat) (u : Tm) (q9 : Option Addr) (d9 : Nat) (f : Bool), v17 = .pointer (some ⟨g9, 0, none⟩) ∧ v18 = .bool f ∧ Hid (Has wx g9 #[.string u.nm, .slice q9 u.args.length d9]) ∧ Hid (SlIn (fun b => κ b ∨ (wr.heap.size ≤ b ∧ b < wx.heap.size)) wx u.args (.slice q9 u.args.length d9)) ∧ u.nm.size ≤ maxLen ∧ Hid (f = true → Gm N u) ∧ Hid (Below wr.heap.size wr wx))
                      case first =>
                        have Hb : Hid (∀ w', Below wr.heap.size wr w' → w'.cell? ⟨g, o + k * 3, none⟩ = some (.string xn) ∧ w'.cell? ⟨g, o + k * 3 + 1, none⟩ = some (.slice q xa d) ∧ w'.cell? ⟨g2, o2 + j, none⟩ = some (.slice q3 sl d3) ∧ Hid (Below wr.heap.size wr w')) := Lib.hid (fun w' kb => ⟨(kb.cell (p := ⟨g, _, none⟩) (show g < wr.heap.size by omega)).trans u1, (kb.cell (p := ⟨g, _, none⟩) (show g < wr.heap.size by omega)).trans u2, (kb.cell (p := ⟨g2, _, none⟩) hg2r).trans v1, Lib.hid kb⟩)
                        have K0 : Hid (Below wr.heap.size wr wr.drew) := Lib.hid (Below.refl _ _).drew
                        clear u1 u2 v1
                        refine wp_region_held_drew (S := (fun w' => w'.cell? ⟨g, o + k * 3, none⟩ = some (.string xn) ∧ w'.cell? ⟨g, o + k * 3 + 1, none⟩ = some (.slice q xa d) ∧ w'.cell? ⟨g2, o2 + j, none⟩ = some (.slice q3 sl d3) ∧ Hid (Below wr.heap.size wr w'))) (by kernel_rfl) (Hb.out _ K0.out) (fun hHeld => ?_)
                        generalize hw0 : wr.drew = wz at hHeld K0 ⊢
                        clear hw0
                        have hz0 : wr.heap.size ≤ wz.heap.size := K0.out.size
                        refine wpAnyH_take (i := 0) (v := ?_) rfl (by kernel_rfl) (by kernel_rfl) (by kernel_rfl) (fun _ _ _ h => h) (Or.inl ⟨by rfl, ?_⟩) (by assumption) ?_
                        rotate_left
                        · intro w' hSw; (try dsimp only at hSw); (try simp only [List.getElem_toArray, List.getElem_cons_zero]); go_simp; try with_reducible rfl
                        (try simp only [List.getElem_toArray, List.getElem_cons_zero, Act.put, List.setIfInBounds_toArray, List.set_cons_zero, List.set_cons_succ])
                        refine wpAnyH_take (i := 1) (v := ?_) rfl (by kernel_rfl) (by kernel_rfl) (by kernel_rfl) (fun _ _ _ h => h) (Or.inl ⟨by rfl, ?_⟩) (by assumption) ?_
                        rotate_left
                        · intro w' hSw; (try dsimp only at hSw); (try simp only [List.getElem_toArray, List.getElem_cons_zero, List.getElem_cons_succ]); go_simp; try with_reducible rfl
                        (try simp only [List.getElem_toArray, List.getElem_cons_zero, List.getElem_cons_succ, Act.put, List.setIfInBounds_toArray, List.set_cons_zero, List.set_cons_succ])
                        refine wpAnyH_take (i := 2) (v := ?_) rfl (by kernel_rfl) (by kernel_rfl) (by kernel_rfl) (fun _ _ _ h => h) (Or.inl ⟨by rfl, ?_⟩) (by assumption) ?_
                        rotate_left
                        · intro w' hSw; (try dsimp only at hSw); (try simp only [List.getElem_toArray, List.getElem_cons_zero, List.getElem_cons_succ]); go_simp; try with_reducible rfl
                        (try simp only [List.getElem_toArray, List.getElem_cons_zero, List.getElem_cons_succ, Act.put, List.setIfInBounds_toArray, List.set_cons_zero, List.set_cons_succ])
                        refine wpAnyH_take (i := 3) (v := ?_) rfl (by kernel_rfl) (by kernel_rfl) (by kernel_rfl) (fun _ _ _ h => h) (Or.inl ⟨by rfl, ?_⟩) (by assumption) ?_
                        rotate_left
                        · intro w' hSw; (try dsimp only at hSw); (try simp only [List.getElem_toArray, List.getElem_cons_zero, List.getElem_cons_succ]); go_simp; try with_reducible rfl
                        (try simp only [List.getElem_toArray, List.getElem_cons_zero, List.getElem_cons_succ, Act.put, List.setIfInBounds_toArray, List.set_cons_zero, List.set_cons_succ])
                        refine wpAnyH_take (i := 4) (v := ?_) rfl (by kernel_rfl) (by kernel_rfl) (by kernel_rfl) (fun _ _ _ h => h) (Or.inl ⟨by rfl, ?_⟩) (by assumption) ?_
                        rotate_left
                        · intro w' hSw; (try dsimp only at hSw); (try simp only [List.getElem_toArray, List.getElem_cons_zero, List.getElem_cons_succ]); go_simp; try with_reducible rfl
                        (try simp only [List.getElem_toArray, List.getElem_cons_zero, List.getElem_cons_succ, Act.put, List.setIfInBounds_toArray, List.set_cons_zero, List.set_cons_succ])
                        refine wpAnyH_take (i := 5) (v := ?_) rfl (by kernel_rfl) (by kernel_rfl) (by kernel_rfl) (fun _ _ _ h => h) (Or.inl ⟨by rfl, ?_⟩) (by assumption) ?_
                        rotate_left
                        · intro w' hSw; (try dsimp only at hSw); (try simp only [List.getElem_toArray, List.getElem_cons_zero, List.getElem_cons_succ]); go_simp; try with_reducible rfl
                        (try simp only [List.getElem_toArray, List.getElem_cons_zero, List.getElem_cons_succ, Act.put, List.setIfInBounds_toArray, List.set_cons_zero, List.set_cons_succ])
                        refine wpAnyH_take (i := 6) (v := ?_) rfl (by kernel_rfl) (by kernel_rfl) (by kernel_rfl) (fun _ _ _ h => h) (Or.inl ⟨by rfl, ?_⟩) (by assumption) ?_
                        rotate_left
                        · intro w' hSw; (try dsimp only at hSw); (try simp only [List.getElem_toArray, List.getElem_cons_zero, List.getElem_cons_succ]); go_simp; try with_reducible rfl
                        (try simp only [List.getElem_toArray, List.getElem_cons_zero, List.getElem_cons_succ, Act.put, List.setIfInBounds_toArray, List.set_cons_zero, List.set_cons_succ])
                        refine wpAnyH_take (i := 7) (v := ?_) rfl (by kernel_rfl) (by kernel_rfl) (by kernel_rfl) (fun _ _ _ h => h) (Or.inl ⟨by rfl, ?_⟩) (by assumption) ?_
                        rotate_left
                        · intro w' hSw; (try dsimp only at hSw); (try simp only [List.getElem_toArray, List.getElem_cons_zero, List.getElem_cons_succ]); go_simp; try with_reducible rfl
                        (try simp only [List.getElem_toArray, List.getElem_cons_zero, List.getElem_cons_succ, Act.put, List.setIfInBounds_toArray, List.set_cons_zero, List.set_cons_succ])
                        refine wpAnyH_take (i := 8) (v := ?_) rfl (by kernel_rfl) (by kernel_rfl) (by kernel_rfl) (fun _ _ _ h => h) (Or.inl ⟨by rfl, ?_⟩) (by assumption) ?_
                        rotate_left
                        · intro w' hSw; (try dsimp only at hSw); (try simp only [List.getElem_toArray, List.getElem_cons_zero, List.getElem_cons_succ]); go_simp; try with_reducible rfl
                        (try simp only [List.getElem_toArray, List.getElem_cons_zero, List.getElem_cons_succ, Act.put, List.setIfInBounds_toArray, List.set_cons_zero, List.set_cons_succ])
                        refine wpAnyH_ready (rs := [9, 13]) (by kernel_rfl) (by simp) ?_
                        refine (AllReadyH.cons rfl (fun K hK => ?_) (AllReadyH.cons rfl (fun K hK => ?_) AllReadyH.nil))
                        · skip
                          go_simp
                          (try go_split_ands)
                          go_at_call 86
                          (with_reducible refine (CI.out _ K0.out).mono ?_)
                          rintro e w7 ⟨u, q9, d9, f, lo, rfl, hlo, s7, n7, f7, k7⟩
                          have K7 := Lib.hid (next0 K0.out k7)
                          have z7 : wz.heap.size ≤ w7.heap.size := k7.size
                          have F7 := Lib.hid f7
                          have N7 := Lib.hid n7
                          have J7 := Lib.hid k7
                          obtain ⟨hi, hhi⟩ : ∃ m, m = w7.heap.size := ⟨_, rfl⟩
                          rw [← hhi] at s7
                          have S7 := Lib.hid s7
                          clear s7 n7 f7 k7
                          refine hK.out _ _ (Hb.out _ K7.out) (fun hHeld => ?_)
                          clear hK K
                          (try simp only [List.getElem_toArray, List.getElem_cons_zero, List.getElem_cons_succ, Act.put, List.setIfInBounds_toArray, List.set_cons_zero, List.set_cons_succ])
                          refine wpAnyH_take (i := 10) (v := ?_) rfl (by kernel_rfl) (by kernel_rfl) (by kernel_rfl) (fun _ _ _ h => h) (Or.inl ⟨by rfl, ?_⟩) (by assumption) ?_
                          rotate_left
                          · intro w' hSw; (try dsimp only at hSw); (try simp only [List.getElem_toArray, List.getElem_cons_zero, List.getElem_cons_succ]); go_simp; try with_reducible rfl
                          (try simp only [List.getElem_toArray, List.getElem_cons_zero, List.getElem_cons_succ, Act.put, List.setIfInBounds_toArray, List.set_cons_zero, List.set_cons_succ])
                          refine wpAnyH_take (i := 11) (v := ?_) rfl (by kernel_rfl) (by kernel_rfl) (by kernel_rfl) (fun _ _ _ h => h) (Or.inl ⟨by rfl, ?_⟩) (by assumption) ?_
                          rotate_left
                          · intro w' hSw; (try dsimp only at hSw); (try simp only [List.getElem_toArray, List.getElem_cons_zero, List.getElem_cons_succ]); go_simp; try with_reducible rfl
                          (try simp only [List.getElem_toArray, List.getElem_cons_zero, List.getElem_cons_succ, Act.put, List.setIfInBounds_toArray, List.set_cons_zero, List.set_cons_succ])
                          refine wpAnyH_take (i := 12) (v := ?_) rfl (by kernel_rfl) (by kernel_rfl) (by kernel_rfl) (fun _ _ _ h => h) (Or.inl ⟨by rfl, ?_⟩) (by assumption) ?_
                          rotate_left
                          · intro w' hSw; (try dsimp only at hSw); (try simp only [List.getElem_toArray, List.getElem_cons_zero, List.getElem_cons_succ]); go_simp; try with_reducible rfl
                          (try simp only [List.getElem_toArray, List.getElem_cons_zero, List.getElem_cons_succ, Act.put, List.setIfInBounds_toArray, List.set_cons_zero, List.set_cons_succ])
                          refine wpAnyH_ready (rs := [13]) (by kernel_rfl) (by simp) ?_
                          refine AllReadyH.cons rfl (fun K hK => ?_) AllReadyH.nil
                          go_simp
                          (try go_split_ands)
                          obtain ⟨w8, hw8⟩ : ∃ z, z = w7.alloc (.cells #[.string ⟨#[]⟩, .slice none 0 0] 24) := ⟨_, rfl⟩
                          rw [← hw8]
                          have J8 : Hid (Below w7.heap.size w7 w8) := Lib.hid (by rw [hw8]; exact below_alloc _ _)
                          have H8 : Hid (Has w8 w7.heap.size #[.string ⟨#[]⟩, .slice none 0 0]) := Lib.hid (by rw [hw8]; exact Has.new _ _ _)
                          have K8 := Lib.hid (next0 K7.out J8.out)
                          have z8 : w7.heap.size + 1 ≤ w8.heap.size := by rw [hw8]; simp
                          clear hw8
                          have S8 := Lib.hid (S7.out.frame (w' := w8) fun b o hb => J8.out.cell (p := ⟨b, o, none⟩) (okq2 (fun b hb => Nat.lt_of_lt_of_le (KL.out b hb) (by omega)) (by omega) b hb))
                          refine hK.out _ _ (Hb.out _ K8.out) (fun hHeld => ?_)
                          clear hK K
                          (try simp only [List.getElem_toArray, List.getElem_cons_zero, List.getElem_cons_succ, Act.put, List.setIfInBounds_toArray, List.set_cons_zero, List.set_cons_succ])
                          refine wpAnyH_ready (rs := [14]) (by kernel_rfl) (by simp) ?_
                          refine AllReadyH.cons rfl (fun K hK => ?_) AllReadyH.nil
                          obtain ⟨y1, y2, y3, y4, y5⟩ := H8.out.two
                          go_simp
                          (try go_split_ands)
                          obtain ⟨w9, hw9⟩ : ∃ z, z = (w8.setCell ⟨w7.heap.size, 0, none⟩ (.string u.nm)).setCell ⟨w7.heap.size, 1, none⟩ (.slice q9 u.args.length d9) := ⟨_, rfl⟩
                          rw [← hw9]
                          have hg9 : wr.heap.size ≤ w7.heap.size := by omega
                          have K9 : Hid (Below wr.heap.size wr w9) := Lib.hid (by rw [hw9]; exact (K8.out.setCell hg9 _).setCell hg9 _)
                          have H9 : Hid (Has w9 w7.heap.size #[.string u.nm, .slice q9 u.args.length d9]) := Lib.hid (by rw [hw9]; exact put_agg H8.out _ _)
                          have z9 : w8.heap.size ≤ w9.heap.size := by rw [hw9]; simp [World.setCell]
                          have S9 : Hid (SlIn (fun b => κ b ∨ (lo ≤ b ∧ b < hi)) w9 u.args (.slice q9 u.args.length d9)) := Lib.hid (by rw [hw9]; exact slin_far2 S8.out (okn2 (a := w5.heap.size) KL.out (by omega) (by omega)) _ _)
                          clear hw9 y1 y2 y3 y4 y5
                          refine hK.out _ _ (Hb.out _ K9.out) (fun hHeld => ?_)
                          clear hK K
                          (try simp only [List.getElem_toArray, List.getElem_cons_zero, List.getElem_cons_succ, Act.put, List.setIfInBounds_toArray, List.set_cons_zero, List.set_cons_succ])
                          refine wpAnyH_take (i := 15) (v := ?_) rfl (by kernel_rfl) (by kernel_rfl) (by kernel_rfl) (fun _ _ _ h => h) (Or.inl ⟨by rfl, ?_⟩) (by assumption) ?_
                          rotate_left
                          · intro w' hSw; (try dsimp only at hSw); (try simp only [List.getElem_toArray, List.getElem_cons_zero, List.getElem_cons_succ]); go_simp; try with_reducible rfl
                          (try simp only [List.getElem_toArray, List.getElem_cons_zero, List.getElem_cons_succ, Act.put, List.setIfInBounds_toArray, List.set_cons_zero, List.set_cons_succ])
                          refine wpAnyH_done (by kernel_rfl) ?_ _
                          go_wp2_with fail
                          go_meet
                          exact ⟨w7.heap.size, u, q9, d9, f, rfl, rfl, H9, Lib.hid (S9.out.weaken fun b hb => hb.imp id fun h => ⟨by omega, by omega⟩), N7.out, F7, K9⟩
                        · skip
                          go_simp
                          (try go_split_ands)
                          obtain ⟨w8, hw8⟩ : ∃ z, z = wz.alloc (.cells #[.string ⟨#[]⟩, .slice none 0 0] 24) := ⟨_, rfl⟩
                          rw [← hw8]
                          have J8 : Hid (Below wz.heap.size wz w8) := Lib.hid (by rw [hw8]; exact below_alloc _ _)
                          have H8 : Hid (Has w8 wz.heap.size #[.string ⟨#[]⟩, .slice none 0 0]) := Lib.hid (by rw [hw8]; exact Has.new _ _ _)
                          have K8 := Lib.hid (next0 K0.out J8.out)
                          have z8 : wz.heap.size + 1 ≤ w8.heap.size := by rw [hw8]; simp
                          clear hw8
                          refine hK.out _ _ (Hb.out _ K8.out) (fun hHeld => ?_)
                          clear hK K
                          (try simp only [List.getElem_toArray, List.getElem_cons_zero, List.getElem_cons_succ, Act.put, List.setIfInBounds_toArray, List.set_cons_zero, List.set_cons_succ])
                          refine wpAnyH_ready (rs := [9]) (by kernel_rfl) (by simp) ?_
                          refine AllReadyH.cons rfl (fun K hK => ?_) AllReadyH.nil
                          go_simp
                          (try go_split_ands)
                          go_at_call 86
                          (with_reducible refine (CI.out _ K8.out).mono ?_)
                          rintro e w7 ⟨u, q9, d9, f, lo, rfl, hlo, s7, n7, f7, k7⟩
                          have K7 := Lib.hid (next0 K8.out k7)
                          have z7 : w8.heap.size ≤ w7.heap.size := k7.size
                          have F7 := Lib.hid f7
                          have N7 := Lib.hid n7
                          have J7 := Lib.hid k7
                          obtain ⟨hi, hhi⟩ : ∃ m, m = w7.heap.size := ⟨_, rfl⟩
                          rw [← hhi] at s7
                          have S7 := Lib.hid s7
                          clear s7 n7 f7 k7
                          have HX := Lib.hid (H8.out.step0 J7.out)
                          refine hK.out _ _ (Hb.out _ K7.out) (fun hHeld => ?_)
                          clear hK K
                          (try simp only [List.getElem_toArray, List.getElem_cons_zero, List.getElem_cons_succ, Act.put, List.setIfInBounds_toArray, List.set_cons_zero, List.set_cons_succ])
                          refine wpAnyH_take (i := 10) (v := ?_) rfl (by kernel_rfl) (by kernel_rfl) (by kernel_rfl) (fun _ _ _ h => h) (Or.inl ⟨by rfl, ?_⟩) (by assumption) ?_
                          rotate_left
                          · intro w' hSw; (try dsimp only at hSw); (try simp only [List.getElem_toArray, List.getElem_cons_zero, List.getElem_cons_succ]); go_simp; try with_reducible rfl
                          (try simp only [List.getElem_toArray, List.getElem_cons_zero, List.getElem_cons_succ, Act.put, List.setIfInBounds_toArray, List.set_cons_zero, List.set_cons_succ])
                          refine wpAnyH_take (i := 11) (v := ?_) rfl (by kernel_rfl) (by kernel_rfl) (by kernel_rfl) (fun _ _ _ h => h) (Or.inl ⟨by rfl, ?_⟩) (by assumption) ?_
                          rotate_left
                          · intro w' hSw; (try dsimp only at hSw); (try simp only [List.getElem_toArray, List.getElem_cons_zero, List.getElem_cons_succ]); go_simp; try with_reducible rfl
                          (try simp only [List.getElem_toArray, List.getElem_cons_zero, List.getElem_cons_succ, Act.put, List.setIfInBounds_toArray, List.set_cons_zero, List.set_cons_succ])
                          refine wpAnyH_take (i := 12) (v := ?_) rfl (by kernel_rfl) (by kernel_rfl) (by kernel_rfl) (fun _ _ _ h => h) (Or.inl ⟨by rfl, ?_⟩) (by assumption) ?_
                          rotate_left
                          · intro w' hSw; (try dsimp only at hSw); (try simp only [List.getElem_toArray, List.getElem_cons_zero, List.getElem_cons_succ]); go_simp; try with_reducible rfl
                          (try simp only [List.getElem_toArray, List.getElem_cons_zero, List.getElem_cons_succ, Act.put, List.setIfInBounds_toArray, List.set_cons_zero, List.set_cons_succ])
                          refine wpAnyH_ready (rs := [14]) (by kernel_rfl) (by simp) ?_
                          refine AllReadyH.cons rfl (fun K hK => ?_) AllReadyH.nil
                          obtain ⟨y1, y2, y3, y4, y5⟩ := HX.out.two
                          go_simp
                          (try go_split_ands)
                          obtain ⟨w9, hw9⟩ : ∃ z, z = (w7.setCell ⟨wz.heap.size, 0, none⟩ (.string u.nm)).setCell ⟨wz.heap.size, 1, none⟩ (.slice q9 u.args.length d9) := ⟨_, rfl⟩
                          rw [← hw9]
                          have hg9 : wr.heap.size ≤ wz.heap.size := by omega
                          have K9 : Hid (Below wr.heap.size wr w9) := Lib.hid (by rw [hw9]; exact (K7.out.setCell hg9 _).setCell hg9 _)
                          have H9 : Hid (Has w9 wz.heap.size #[.string u.nm, .slice q9 u.args.length d9]) := Lib.hid (by rw [hw9]; exact put_agg HX.out _ _)
                          have z9 : w7.heap.size ≤ w9.heap.size := by rw [hw9]; simp [World.setCell]
                          have S9 : Hid (SlIn (fun b => κ b ∨ (lo ≤ b ∧ b < hi)) w9 u.args (.slice q9 u.args.length d9)) := Lib.hid (by rw [hw9]; exact slin_far2 S7.out (okn2 (a := w5.heap.size) KL.out (by omega) (by omega)) _ _)
                          clear hw9 y1 y2 y3 y4 y5
                          refine hK.out _ _ (Hb.out _ K9.out) (fun hHeld => ?_)
                          clear hK K
                          (try simp only [List.getElem_toArray, List.getElem_cons_zero, List.getElem_cons_succ, Act.put, List.setIfInBounds_toArray, List.set_cons_zero, List.set_cons_succ])
                          refine wpAnyH_take (i := 15) (v := ?_) rfl (by kernel_rfl) (by kernel_rfl) (by kernel_rfl) (fun _ _ _ h => h) (Or.inl ⟨by rfl, ?_⟩) (by assumption) ?_
                          rotate_left
                          · intro w' hSw; (try dsimp only at hSw); (try simp only [List.getElem_toArray, List.getElem_cons_zero, List.getElem_cons_succ]); go_simp; try with_reducible rfl
                          (try simp only [List.getElem_toArray, List.getElem_cons_zero, List.getElem_cons_succ, Act.put, List.setIfInBounds_toArray, List.set_cons_zero, List.set_cons_succ])
                          refine wpAnyH_done (by kernel_rfl) ?_ _
                          go_wp2_with fail
                          go_meet
                          exact ⟨wz.heap.size, u, q9, d9, f, rfl, rfl, H9, Lib.hid (S9.out.weaken fun b hb => hb.imp id fun h => ⟨by omega, by omega⟩), N7.out, F7, K9⟩
                      case rest =>
                        obtain ⟨g9, u, q9, d9, f, rfl, rfl, H9, S9, n9, F9, K9⟩ := hcut
                        obtain ⟨oa, oc, rfl⟩ := hO'.out.form
                        have O9 := Lib.hid (hO'.out.below K9.out)
                        have T9 := Lib.hid (hT.out.below K9.out)
                        have hlo := hO'.out.1.lt
                        have HW := Lib.hid hw.out
                        clear u1 u2 v1 CI
                        cases f
                        · clear hlo
                          go_wp2_with fail
                          go_roundw
                          case rel => exact ⟨j + 1, Lm', by omega, by go_num, by omega, O9, hM', T9, HW⟩
                          case measure => simp [intOf]; omega
                        · have GU := Lib.hid (F9.out rfl)
                          have A1 : Lm'.length + 1 ≤ maxLen := by unfold maxLen; omega
                          have A2 : (Lm'.length + 1) * 40 ≤ 140737488355328 := by omega
                          have hcw : wr.heap.size ≤ wc.heap.size := K9.out.size
                          have hzb : B3 ≤ (wc.alloc (.cells #[.string u.nm, .slice q9 u.args.length d9] 24)).heap.size := by simp; omega
                          have OKM := Lib.hid (okm (v := .slice oa Lm'.length oc) KK.out (show B3 ≤ wr.heap.size by omega) hw5 hcw (fun k e => (hlo k e).2) HW.out)
                          have HM9 : Hid (∀ y ∈ Lm' ++ [(u, Value.slice q9 u.args.length d9)], Gm N y.1) := Lib.hid (fun y hy => by
                            rcases List.mem_append.1 hy with hy | hy
                            · exact hM'.out y hy
                            · obtain rfl := List.mem_singleton.1 hy
                              exact GU.out)
                          have hcw5 : w5.heap.size ≤ wc.heap.size := by omega
                          clear hlo GU F9
                          obtain ⟨y1, y2, y3, y4, y5⟩ := H9.out.two
                          generalize hun : u.nm = un at *
                          have HUN := Lib.hid hun
                          generalize hul : u.args.length = ul at *
                          clear hun hul
                          go_wp2_with (at_builtin; go_must (refine wpList_append_lies _ rfl _ _ 22 rfl B3 24 i0 (.agg #[.string ⟨#[]⟩, .slice none 0 0]) 2 40 Tryz.underlying22 hi hz0 hz1 hz2 rfl (by decide) (.slice oa Lm'.length oc) Lm'.length (flatL Lm') rfl (O9.out.1.alloc _) ⟨wc.heap.size, 0, none⟩ 1 1 [.string un, .slice q9 ul d9] rfl rfl (news2 _ _ _ _) (one2 _ _ _ _) (by decide) A1 A2 hzb (wc.heap.size + 1) (by simp) ?_; intro g7 cap7 w7 hown hgrow hat hlt7; have O7 := Lib.hid (OwnA.add (t := u) (v1 := .slice q9 ul d9) O9.out S9.out (by rw [HUN.out]; exact n9) OKM.out (by rw [HUN.out]; exact hown) hgrow hat); have T7 := Lib.hid ((T9.out.below (below_alloc _ _)).grown hgrow (fun k e => HW.out k e)); have W7 : Hid (∀ i, (Value.slice (some ⟨g7, 0, none⟩) (Lm'.length + 1) cap7).ownBlock = some i → mo = some i ∨ w5.heap.size ≤ i) := Lib.hid (by (intro i e; have e' : g7 = i := (by simpa [Value.ownBlock] using e); subst e'; exact hat.elim (fun h => HW.out _ h) (fun h => Or.inr (by omega)))); clear hown hgrow hat))
                          go_roundw
                          case rel => exact ⟨j + 1, Lm' ++ [(u, .slice q9 ul d9)], by omega, by go_num, by simp; omega, O7, HM9, T7, W7⟩
                          case measure => simp [intOf]; omega
                    · obtain rfl : j = nq := by omega
                      have HF := Lib.hid (hT.out.has H5.out (fun e => by have := M1.out _ e; omega))
                      have CF := Lib.hid (Ch.lt C05.out hT.out (fun i e => by have := M1.out i e; omega))
                      go_wp2_with fail
                      go_roundw
                      case rel => exact ⟨k + 1, Lm', lf5, by omega, by go_num, g0, g1, by omega, hO', hM', HF, CF⟩
                      case measure => simp [intOf]; omega
              · obtain rfl : k = nl := by omega
                go_wp2_with fail
                go_loopw [12, 96] (fun mv i wt => ∃ (k : Nat) (Lm : List (Tm × Value)) (lf : Int), k ≤ L.length ∧ i = .int .i64 k ∧ 0 ≤ lf ∧ lf ≤ 1000000 ∧ Lm.length ≤ 5001000 + k ∧ Hid (OwnA ok3 B3 wt Lm mv) ∧ Hid (∀ y ∈ Lm, Gm N y.1) ∧ Hid (Has wt A #[.int .i64 lf]) ∧ Hid (Ch A wa wt)) (fun _ i _ => L.length - (intOf i).toNat)
                case atStart => exact ⟨0, Lm, lf, Nat.zero_le _, rfl, h0, h1, by omega, hO, hM, hH, hC⟩
                case round =>
                  clear h0 h1 hLl hO hM hH hC lf
                  obtain ⟨k, Lm, lf, hk, rfl, h0, h1, hLl, hO, hM, hH, hC⟩ := hrel
                  by_cases hlt : k < L.length
                  · obtain ⟨t, g, o, q, d, ht, rfl, hg, e1, e2, hts, htn⟩ := (AT3.out wr hC.out).row k (by rw [List.length_map]; exact hlt)
                    obtain ⟨oa, oc, rfl⟩ := hO.out.form
                    have GT := Lib.hid (GA3.out t (List.mem_of_getElem? ht))
                    have TS : Hid (SlIn ok3 wr t.args (.slice q t.args.length d)) := Lib.hid hts
                    have OL := hO.out.1.lt
                    have hB3r : B3 ≤ wr.heap.size := by have := hC.out.size; omega
                    have nv1 : (Value.slice oa Lm.length oc).ownBlock ≠ some A := fun e => by have := OL _ e; omega
                    have OB3 : Hid (∀ i, (Value.slice oa Lm.length oc).ownBlock = some i → wa.heap.size ≤ i) := Lib.hid (fun i e => by rw [← hB3]; exact (OL i e).1)
                    have OKM : Hid (∀ b, ok3 b → (ok3 b ∨ B3 ≤ b) ∧ b < wr.heap.size ∧ (Value.slice oa Lm.length oc).ownBlock ≠ some b) := Lib.hid (fun b hb => by
                      have h1 := HK1.out b hb
                      exact ⟨Or.inl hb, by omega, fun e => by have := OL _ e; omega⟩)
                    have A1 : Lm.length + 1 ≤ maxLen := by unfold maxLen; omega
                    have A2 : (Lm.length + 1) * 40 ≤ 140737488355328 := by omega
                    clear ht hts htn OL hg
                    obtain ⟨z1, hz1'⟩ : ∃ z, (t.nm.toList == [105, 110, 105, 116]) = z := ⟨_, rfl⟩
                    obtain ⟨z2, hz2'⟩ : ∃ z, (t.nm.toList == [110, 101, 120, 116]) = z := ⟨_, rfl⟩
                    obtain ⟨z3, hz3'⟩ : ∃ z, (t.nm.toList == [108, 101, 103, 97, 108]) = z := ⟨_, rfl⟩
                    generalize t.nm = tn at *
                    generalize t.args.length = ta at *
                    have hzb : ∀ n : ByteArray, B3 ≤ (wr.alloc (.cells #[.string n, .slice q ta d] 24)).heap.size := fun n => by simp; omega
                    by_cases ht1 : ta = 1
                    · have b1 : ((ta : Int) == 1) = true := by rw [beq_iff_eq]; omega
                      have b2 : ((ta : Int) == 2) = false := by rw [beq_eq_false_iff_ne]; omega
                      clear ht1
                      cases z1
                      · cases z2
                        · go_wp2_with fail
                          go_roundw
                          case rel => exact ⟨k + 1, Lm, lf, by omega, by go_num, h0, h1, by omega, hO, hM, hH, hC⟩
                          case measure => simp [intOf]; omega
                        · have GU : Hid (Gm N (.mk ⟨#[116, 114, 117, 101]⟩ t.args)) := Lib.hid (gm_name HN.out (show 4 ≤ N from H4.out) (show 4 ≤ 4 by omega) GT.out)
                          have HM9 : Hid (∀ y ∈ Lm ++ [(Tm.mk ⟨#[116, 114, 117, 101]⟩ t.args, Value.slice q ta d)], Gm N y.1) := Lib.hid (fun y hy => by
                            rcases List.mem_append.1 hy with hy | hy
                            · exact hM.out y hy
                            · obtain rfl := List.mem_singleton.1 hy
                              exact GU.out)
                          go_wp2_with (at_builtin; go_must (refine wpList_append_lies _ rfl _ _ 22 rfl B3 24 i0 (.agg #[.string ⟨#[]⟩, .slice none 0 0]) 2 40 Tryz.underlying22 hi hz0 hz1 hz2 rfl (by decide) (.slice oa Lm.length oc) Lm.length (flatL Lm) rfl (hO.out.1.alloc _) ⟨wr.heap.size, 0, none⟩ 1 1 [.string ⟨#[116, 114, 117, 101]⟩, .slice q ta d] rfl rfl (news2 _ _ _ _) (one2 _ _ _ _) (by decide) A1 A2 (hzb ⟨#[116, 114, 117, 101]⟩) (wr.heap.size + 1) (by simp) ?_; intro g7 cap7 w7 hown hgrow hat hlt7; have O7 := Lib.hid (OwnA.add (t := .mk ⟨#[116, 114, 117, 101]⟩ t.args) (v1 := .slice q ta d) hO.out TS.out (show 4 ≤ maxLen by unfold maxLen; omega) OKM.out hown hgrow hat); have C7 := Lib.hid (Ch.grown (Ch.alloc hC.out _) hgrow OB3.out); have H7 := Lib.hid (UniD.Has.grown (hH.out.alloc _) hgrow nv1); clear hown hgrow hat))
                          go_roundw
                          case rel => exact ⟨k + 1, Lm ++ [(.mk ⟨#[116, 114, 117, 101]⟩ t.args, .slice q ta d)], lf, by omega, by go_num, h0, h1, by simp; omega, O7, HM9, H7, C7⟩
                          case measure => simp [intOf]; omega
                      · have GU : Hid (Gm N (.mk ⟨#[116, 114, 117, 101]⟩ t.args)) := Lib.hid (gm_name HN.out (show 4 ≤ N from H4.out) (show 4 ≤ 4 by omega) GT.out)
                        have HM9 : Hid (∀ y ∈ Lm ++ [(Tm.mk ⟨#[116, 114, 117, 101]⟩ t.args, Value.slice q ta d)], Gm N y.1) := Lib.hid (fun y hy => by
                          rcases List.mem_append.1 hy with hy | hy
                          · exact hM.out y hy
                          · obtain rfl := List.mem_singleton.1 hy
                            exact GU.out)
                        go_wp2_with (at_builtin; go_must (refine wpList_append_lies _ rfl _ _ 22 rfl B3 24 i0 (.agg #[.string ⟨#[]⟩, .slice none 0 0]) 2 40 Tryz.underlying22 hi hz0 hz1 hz2 rfl (by decide) (.slice oa Lm.length oc) Lm.length (flatL Lm) rfl (hO.out.1.alloc _) ⟨wr.heap.size, 0, none⟩ 1 1 [.string ⟨#[116, 114, 117, 101]⟩, .slice q ta d] rfl rfl (news2 _ _ _ _) (one2 _ _ _ _) (by decide) A1 A2 (hzb ⟨#[116, 114, 117, 101]⟩) (wr.heap.size + 1) (by simp) ?_; intro g7 cap7 w7 hown hgrow hat hlt7; have O7 := Lib.hid (OwnA.add (t := .mk ⟨#[116, 114, 117, 101]⟩ t.args) (v1 := .slice q ta d) hO.out TS.out (show 4 ≤ maxLen by unfold maxLen; omega) OKM.out hown hgrow hat); have C7 := Lib.hid (Ch.grown (Ch.alloc hC.out _) hgrow OB3.out); have H7 := Lib.hid (UniD.Has.grown (hH.out.alloc _) hgrow nv1); clear hown hgrow hat))
                        go_roundw
                        case rel => exact ⟨k + 1, Lm ++ [(.mk ⟨#[116, 114, 117, 101]⟩ t.args, .slice q ta d)], lf, by omega, by go_num, h0, h1, by simp; omega, O7, HM9, H7, C7⟩
                        case measure => simp [intOf]; omega
                    · have b1 : ((ta : Int) == 1) = false := by rw [beq_eq_false_iff_ne]; omega
                      by_cases ht2 : ta = 2
                      · have b2 : ((ta : Int) == 2) = true := by rw [beq_iff_eq]; omega
                        clear ht1 ht2
                        cases z3
                        · go_wp2_with fail
                          go_roundw
                          case rel => exact ⟨k + 1, Lm, lf, by omega, by go_num, h0, h1, by omega, hO, hM, hH, hC⟩
                          case measure => simp [intOf]; omega
                        · have GU : Hid (Gm N (.mk ⟨#[100, 111, 101, 115]⟩ t.args)) := Lib.hid (gm_name HN.out (show 4 ≤ N from H4.out) (show 4 ≤ 4 by omega) GT.out)
                          have HM9 : Hid (∀ y ∈ Lm ++ [(Tm.mk ⟨#[100, 111, 101, 115]⟩ t.args, Value.slice q ta d)], Gm N y.1) := Lib.hid (fun y hy => by
                            rcases List.mem_append.1 hy with hy | hy
                            · exact hM.out y hy
                            · obtain rfl := List.mem_singleton.1 hy
                              exact GU.out)
                          go_wp2_with (at_builtin; go_must (refine wpList_append_lies _ rfl _ _ 22 rfl B3 24 i0 (.agg #[.string ⟨#[]⟩, .slice none 0 0]) 2 40 Tryz.underlying22 hi hz0 hz1 hz2 rfl (by decide) (.slice oa Lm.length oc) Lm.length (flatL Lm) rfl (hO.out.1.alloc _) ⟨wr.heap.size, 0, none⟩ 1 1 [.string ⟨#[100, 111, 101, 115]⟩, .slice q ta d] rfl rfl (news2 _ _ _ _) (one2 _ _ _ _) (by decide) A1 A2 (hzb ⟨#[100, 111, 101, 115]⟩) (wr.heap.size + 1) (by simp) ?_; intro g7 cap7 w7 hown hgrow hat hlt7; have O7 := Lib.hid (OwnA.add (t := .mk ⟨#[100, 111, 101, 115]⟩ t.args) (v1 := .slice q ta d) hO.out TS.out (show 4 ≤ maxLen by unfold maxLen; omega) OKM.out hown hgrow hat); have C7 := Lib.hid (Ch.grown (Ch.alloc hC.out _) hgrow OB3.out); have H7 := Lib.hid (UniD.Has.grown (hH.out.alloc _) hgrow nv1); clear hown hgrow hat))
                          go_roundw
                          case rel => exact ⟨k + 1, Lm ++ [(.mk ⟨#[100, 111, 101, 115]⟩ t.args, .slice q ta d)], lf, by omega, by go_num, h0, h1, by simp; omega, O7, HM9, H7, C7⟩
                          case measure => simp [intOf]; omega
                      · have b2 : ((ta : Int) == 2) = false := by rw [beq_eq_false_iff_ne]; omega
                        clear ht1 ht2
                        go_wp2_with fail
                        go_roundw
                        case rel => exact ⟨k + 1, Lm, lf, by omega, by go_num, h0, h1, by omega, hO, hM, hH, hC⟩
                        case measure => simp [intOf]; omega
                  · have hkl : k = L.length := by omega
                    subst hkl
                    have hO6 := hO
                    obtain ⟨oa, oc, rfl⟩ := hO.out.form
                    have hCs := hC.out.size
                    have S6 := Lib.hid (S3.out wr hC.out)
                    have D6 := Lib.hid (DW.out wr hC.out)
                    have hAV := SS.out.own.1.lt
                    have AV : Hid (∀ i, (Value.slice va L.length vc).ownBlock = some i → A + 4 ≤ i ∧ i < B3) := Lib.hid (fun i e => by have := hAV i e; omega)
                    have EX : Hid (∀ i, exA A (.slice va L.length vc) i → i < B3 ∧ ¬ ok3 i) := Lib.hid (fun i e => by
                      rcases e with e | e | e
                      · exact ⟨by omega, fun h => by have := (HK1.out _ h).1; omega⟩
                      · exact ⟨by omega, fun h => by have := (HK1.out _ h).1; omega⟩
                      · exact ⟨(AV.out i e).2, fun h => (HK1.out _ h).2.2 e⟩)
                    have L6 : Hid (Lt (exA A (.slice va L.length vc)) wr wr) := Lib.hid (Lt.of (Below.refl _ _))
                    have W6 : Hid (∀ i, (Value.slice va L.length vc).ownBlock = some i → (Value.slice va L.length vc).ownBlock = some i ∨ wr.heap.size ≤ i) := Lib.hid (fun i e => Or.inl e)
                    obtain ⟨wb, hwb⟩ : ∃ z, z = wr := ⟨_, rfl⟩
                    subst hwb
                    clear hAV
                    go_wp2_with fail
                    go_loopw [160] (fun i wt => ∃ (k : Nat) (L' : List (Tm × Value)) (M' : List ByteArray) (av' : Value), k ≤ Lm.length ∧ i = .int .i64 k ∧ L'.length ≤ 1000 + k ∧ Hid (St N ((N + 3) * 20 ^ 4) (20 ^ 4) A wt L' M' av') ∧ Hid (Lt (exA A (.slice va L.length vc)) wb wt) ∧ Hid (∀ i, av'.ownBlock = some i → (Value.slice va L.length vc).ownBlock = some i ∨ wb.heap.size ≤ i)) (fun i _ => Lm.length - (intOf i).toNat)
                    case atStart => exact ⟨0, L, M, _, Nat.zero_le _, rfl, by omega, S6, L6, W6⟩
                    case round =>
                      clear S6 L6 W6
                      obtain ⟨k, L', M', av', hk6, rfl, hl6, hS6, hT6, hV6⟩ := hrel
                      by_cases hlt6 : k < Lm.length
                      · obtain ⟨x, g, q, d, okx, hx, rfl, hg, e1, e2, hokx, hxs, hxn⟩ := own_row hO6.out k hlt6
                        have u1 := (hT6.out.cell (g := g) (o := k * 2) hg.2 (fun e => by have := EX.out _ e; omega)).trans e1
                        have u2 := (hT6.out.cell (g := g) (o := k * 2 + 1) hg.2 (fun e => by have := EX.out _ e; omega)).trans e2
                        have GX := hM.out x (List.mem_of_getElem? hx)
                        have nx : ∀ b, okx b → ¬ exA A (.slice va L.length vc) b := fun b hb e => by
                          have a1 := EX.out b e
                          rcases (hokx b hb).1 with h | h
                          · exact a1.2 h
                          · omega
                        have CA := Lib.hid (add_any N A wr L' M' av' hS6.out (by omega) x.1 (.slice q x.1.args.length d) okx (fun b hb => ⟨by
                            rcases (hokx b hb).1 with h | h
                            · exact (HK1.out b h).1
                            · exact Or.inr (by omega), Nat.lt_of_lt_of_le (hokx b hb).2 hT6.out.size, fun e => by
                            rcases hV6.out b e with h | h
                            · exact nx b hb (Or.inr (Or.inr h))
                            · have := (hokx b hb).2; omega⟩) (hxs.frame fun b o hb => hT6.out.cell (hokx b hb).2 (nx b hb)) hxn GX.1 GX.2.1 GX.2.2)
                        clear hx e1 e2 hokx hxs hxn GX nx
                        generalize x.1.nm = xn at *
                        generalize x.1.args.length = xa at *
                        go_wp2_with fail
                        refine CA.out.mono ?_
                        rintro e w7 ⟨rfl, L7, M7, av7, S7, hl7, hl8, T7, V7⟩
                        have SS7 := Lib.hid S7
                        have ho6 := hS6.out.own.1.lt
                        have TT7 := Lib.hid (Lt.trans2 hT6.out T7 (fun i e => by
                          rcases e with e | e | e
                          · exact Or.inl (Or.inl e)
                          · exact Or.inl (Or.inr (Or.inl e))
                          · exact (hV6.out i e).imp (fun h => Or.inr (Or.inr h)) id))
                        have VV7 : Hid (∀ i, av7.ownBlock = some i → (Value.slice _ L.length vc).ownBlock = some i ∨ wb.heap.size ≤ i) := Lib.hid (fun i e => (V7 i e).elim (fun h => hV6.out i h) fun h => Or.inr (Nat.le_trans hT6.out.size h))
                        clear S7 T7 V7 ho6 CA
                        go_wp2_with fail
                        go_roundw
                        case rel => exact ⟨k + 1, L7, M7, av7, by omega, by go_num, by omega, SS7, TT7, VV7⟩
                        case measure => simp [intOf]; omega
                      · obtain rfl : k = Lm.length := by omega
                        have OO : Hid (OS N A 10000000 w0 wr) := Lib.hid ⟨L', M', av', lf, hS6.out, hT6.out.has hH.out (fun e => by
                          rcases e with e | e | e
                          · omega
                          · omega
                          · have := AV.out _ e; omega), h0, h1, by omega, D6.out.trans (hT6.out.toBelow (by omega) fun i e => by
                          rcases e with e | e | e
                          · omega
                          · omega
                          · have := AV.out _ e; omega)⟩
                        go_wp2_with fail
                        go_roundw
                        case rel => exact ⟨(L.length : Int), rfl, by omega, by omega, OO⟩
                        case measure => simp [intOf]; omega
          · go_wp2_with fail
            refine bodyPost_ret (by simp [results, Tryz.results47, go_sem]; rfl) rfl ?_
            exact ⟨by simp, by rw [← HA.out]; exact DD.out⟩
        · have hi2 : ¬ ((L.length : Nat) : Int) ≤ 1000 := by omega
          by_cases hc : m < (L.length : Int)
          all_goals
            go_wp2_with fail
            refine bodyPost_ret (by simp [results, Tryz.results47, go_sem]; rfl) rfl ?_
            exact ⟨by simp, by rw [← HA.out]; exact DD.out⟩
end LihD
end Go.Proofs.YtdkpflojdnkbnaaGreatDoor
