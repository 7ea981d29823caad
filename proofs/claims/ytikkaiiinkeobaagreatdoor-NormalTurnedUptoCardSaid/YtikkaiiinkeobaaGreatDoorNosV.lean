/- A printable rule's normal form is printable; how long its text is; normal forms of lists as plain data. No conditions. -/
import Derived.Test.YtikkaiiinkeobaaGreatDoorNosF
import Derived.Test.YtikkaiiinkeobaaGreatDoorGAJ
import Derived.Test.YtikkaiiinkeobaaGreatDoorGBE
namespace Go.Proofs.YtikkaiiinkeobaaGreatDoor
open Go
namespace NosV
open LexM TermM UniM UniK UniD UniE NorB NorC NorD NorM NorP NorQ NorR NorS NosQ NosF
theorem ins_len (x : Lt) : ∀ l : List Lt, (insL x l).length ≤ l.length + 1
  | [] => by simp [insL]
  | y :: l => by
    unfold insL
    split
    · simp
    · split
      · simp
      · have := ins_len x l
        simp
        omega
theorem arr_len (l : List Lt) : (arrL l).length ≤ l.length := by
  have gen : ∀ (l a : List Lt), (l.foldl (fun a x => insL x a) a).length ≤ a.length + l.length := by
    intro l
    induction l with
    | nil => intro a; simp
    | cons x l ih =>
      intro a
      have h1 := ih (insL x a)
      have h2 := ins_len x a
      simp only [List.foldl_cons, List.length_cons]
      omega
  simpa [arrL] using gen l []
/-- A way of replacing that takes variables to variables and nothing else. -/
def VV (φ : ByteArray → Tm) : Prop := ∀ n, (varB n = true → ∃ m, φ n = .mk m [] ∧ varB m = true) ∧ (varB n = false → φ n = .mk n [])
theorem ren_vv {V : List ByteArray} {φ : ByteArray → Tm} (h : IsRen V φ) (h9 : V.length ≤ 9) (hV : ∀ v ∈ V, varB v = true) : VV φ := fun n => by
  obtain ⟨f, f1, f2, _⟩ := ren_names h h9
  refine ⟨fun hn => ?_, fun hn => h.2 n fun e => by rw [hV n e] at hn; cases hn⟩
  by_cases e : n ∈ V
  · exact ⟨f n, f1 n e, f2 n e⟩
  · exact ⟨n, h.2 n e, hn⟩
theorem con_novar {n : ByteArray} (h : conB n = true) : varB n = false := TermH.con_var h
theorem rep_valid {φ : ByteArray → Tm} (hφ : VV φ) : ∀ (d : Nat) (t : Tm), validT false d t = true → validT false d (repT φ t) = true
  | 0, t, h => by simp [validT] at h
  | d + 1, .mk n [], h => by
    simp [validT] at h
    have e : repT φ (.mk n []) = φ n := by simp [repT]
    rw [e]
    rcases h with h | h
    · rw [(hφ n).2 (con_novar h)]
      simp [validT, h]
    · obtain ⟨m, h1, h2⟩ := (hφ n).1 h
      rw [h1]
      simp [validT, h2]
  | d + 1, .mk n (a :: l), h => by
    have e : repT φ (.mk n (a :: l)) = .mk n ((a :: l).map (repT φ)) := by rw [repT, if_neg (by simp), repL_map]
    rw [e]
    simp only [validT, List.isEmpty_cons, Bool.false_eq_true, if_false, Bool.and_eq_true, decide_eq_true_eq, List.all_eq_true] at h
    have hne : ((a :: l).map (repT φ)).isEmpty = false := by simp
    simp only [validT, hne, Bool.false_eq_true, if_false, Bool.and_eq_true, decide_eq_true_eq, List.all_eq_true, List.length_map]
    refine ⟨h.1, fun x hx => ?_⟩
    obtain ⟨y, hy, rfl⟩ := List.mem_map.1 hx
    exact rep_valid hφ d y (h.2 y hy)
theorem name_novar {n : ByteArray} (h : nameL n.data.toList = true) : varB n = false := con_novar (by unfold conB nameB; rw [h, Bool.or_true])
theorem rep_atom {φ : ByteArray → Tm} (hφ : VV φ) {t : Tm} (h : atB t = true) : atB (repT φ t) = true := by
  obtain ⟨h1, h2⟩ := NosT.at_valid h
  have h3 := rep_valid hφ 4 t h2
  have e : (repT φ t).nm = t.nm := by
    cases t with
    | mk n l =>
      cases l with
      | nil =>
        have e : repT φ (.mk n []) = φ n := by simp [repT]
        rw [e, (hφ n).2 (name_novar h1)]
      | cons a l =>
        have e : repT φ (.mk n (a :: l)) = .mk n ((a :: l).map (repT φ)) := by rw [repT, if_neg (by simp), repL_map]
        rw [e]
        rfl
  unfold atB
  rw [e, h1, h3]
  rfl
theorem vsr_varB (r : Rl) : ∀ v ∈ VsR r, varB v = true := fun v hv => ((vsr_mem r v).1 hv).1
theorem nf_valid {r x : Rl} (hv : vlB r = true) (h5 : (VsR r).length ≤ 9) (h : IsNF (VsR r) r x) : vlB x = true := by
  unfold vlB at hv ⊢
  simp only [Bool.and_eq_true, decide_eq_true_eq, List.all_eq_true] at hv ⊢
  obtain ⟨u, hu, e⟩ := (cand_iff (vsr_vars r).1).1 h.1
  have hR := zip_ren (vsr_vars r).1 hu
  have hφ := ren_vv hR h5 (vsr_varB r)
  have e1 : x.1 = repT (leafS ((VsR r).zip u)) r.1 := by rw [e, rep_app]; rfl
  refine ⟨?_, ?_, fun y hy => ?_⟩
  · rw [e]
    have := arr_len (r.2.map fun x => (x.1, appT ((VsR r).zip u) x.2))
    rw [List.length_map] at this
    exact Nat.le_trans this hv.1
  · rw [e1]; exact rep_atom hφ hv.2.1
  · rw [e] at hy
    obtain ⟨z, hz, rfl⟩ := List.mem_map.1 ((arr_mem _ y).1 hy)
    show atB (appT _ z.2) = true
    rw [← rep_app]
    exact rep_atom hφ (hv.2.2 z hz)
theorem code_zero {r : Rl} (h : codeN r = 0) : vlB r = true ∧ (VsR r).length ≤ 5 := by
  unfold codeN at h
  split at h
  · rename_i hv
    split at h
    · cases h
    · exact ⟨hv, by omega⟩
  · cases h
theorem nf_vl {r x : Rl} (h : NfOf r x) (h0 : codeN r = 0) : vlB x = true := nf_valid (code_zero h0).1 (Nat.le_trans (code_zero h0).2 (by omega)) (h.1 h0)
/-! ### How long a printable rule's text is -/
theorem text_len (g : Bool) : ∀ (d : Nat) (t : Tm), validT g d t = true → (textT t).length + 1 ≤ 19 * sizeT t
  | 0, t, h => by simp [validT] at h
  | d + 1, .mk n l, h => by
    obtain ⟨_, h2, h3⟩ := NosT.valid_parts h
    have tl : ∀ l : List Tm, (∀ t ∈ l, validT g d t = true) → (tailT l).length ≤ 19 * sizeL l := by
      intro l
      induction l with
      | nil => intro _; simp [tailT]
      | cons a l ih =>
        intro hl
        have h1 := text_len g d a (hl a (by simp))
        have h2 := ih (fun t ht => hl t (by simp [ht]))
        simp only [tailT, sizeL, List.length_append, List.length_cons]
        omega
    have h4 := tl l h3
    simp only [textT, sizeT, List.length_append]
    split
    · simp only [List.length_nil]; omega
    · simp only [List.length_cons, List.length_append, List.length_drop, List.length_nil]; omega
theorem at_len {t : Tm} (h : atB t = true) : (textT t).length ≤ 2000 := by
  have h1 := (NosT.at_valid h).2
  have h2 := text_len false 4 t h1
  have h3 := size_valid false 4 t h1
  have e : szd 4 = 85 := rfl
  omega
theorem tail_len : ∀ (l : List Lt), (∀ x ∈ l, atB x.2 = true) → (Lib.joinTail [32, 97, 110, 100, 32] (l.map litX)).length ≤ l.length * 3000
  | [], _ => by simp [Lib.joinTail]
  | x :: l, h => by
    have h1 := at_len (h x List.mem_cons_self)
    have h2 := tail_len l fun y hy => h y (List.mem_cons_of_mem _ hy)
    have h3 : (litX x).length ≤ 4 + (textT x.2).length := by unfold litX; split <;> simp <;> omega
    simp only [Lib.joinTail, List.map_cons, List.flatten_cons, List.length_append, List.length_cons, List.length_nil] at h2 ⊢
    omega
theorem vl_sm {r : Rl} (h : vlB r = true) : NorF.Sm r := by
  unfold vlB at h
  simp only [Bool.and_eq_true, decide_eq_true_eq, List.all_eq_true] at h
  refine ⟨Nat.le_trans (at_len h.2.1) (by omega), by omega, fun x hx => Nat.le_trans (at_len (h.2.2 x hx)) (by omega), ?_⟩
  unfold bodyX
  cases hr : r.2 with
  | nil => simp [Lib.join_nil]
  | cons x l =>
    have hh := h.2.2
    rw [hr] at hh
    have h1 := at_len (hh x List.mem_cons_self)
    have h2 := tail_len l fun y hy => hh y (List.mem_cons_of_mem _ hy)
    have h3 : (litX x).length ≤ 4 + (textT x.2).length := by unfold litX; split <;> simp <;> omega
    have h4 := h.1
    rw [hr] at h4
    rw [List.map_cons, Lib.join_cons, List.length_append]
    simp at h4
    omega
/-! ### Lists -/
def firstE : List Rl → Int
  | [] => 0
  | r :: l => if codeN r = 0 then firstE l else codeN r
/-- The error of Rules. -/
def codeL (l : List Rl) : Int := if 128 < l.length then 2 else firstE l
/-- What Rules answers. -/
def RsOf (l m : List Rl) : Prop := (codeL l = 0 → Asc cmpR m ∧ ∀ x, x ∈ m ↔ ∃ r ∈ l, NfOf r x) ∧ (codeL l ≠ 0 → m = [])
theorem rs_det {l m k : List Rl} (h : RsOf l m) (h' : RsOf l k) : m = k := by
  by_cases e : codeL l = 0
  · obtain ⟨a1, a2⟩ := h.1 e
    obtain ⟨b1, b2⟩ := h'.1 e
    exact asc_unique r_neg r_zero a1 b1 fun x => (a2 x).trans (b2 x).symm
  · rw [h.2 e, h'.2 e]
theorem first_ok : ∀ {l : List Rl}, (∀ r ∈ l, codeN r = 0) → firstE l = 0
  | [], _ => rfl
  | r :: l, h => by
    unfold firstE
    rw [if_pos (h r List.mem_cons_self)]
    exact first_ok fun x hx => h x (List.mem_cons_of_mem _ hx)
theorem first_bad : ∀ {l : List Rl} {k : Nat} {r : Rl}, l[k]? = some r → (∀ x ∈ l.take k, codeN x = 0) → codeN r ≠ 0 → firstE l = codeN r
  | [], k, r, h, _, _ => by simp at h
  | a :: l, 0, r, h, _, hc => by
    simp at h
    subst h
    unfold firstE
    rw [if_neg hc]
  | a :: l, k + 1, r, h, ht, hc => by
    unfold firstE
    rw [if_pos (ht a (by simp))]
    exact first_bad (by simpa using h) (fun x hx => ht x (by simp [hx])) hc
end NosV
end Go.Proofs.YtikkaiiinkeobaaGreatDoor
