/- The sample network of the laws: what it is, and where it lies. No conditions. Made by gnSa.py. -/
import Derived.Test.YtgbbpliihglijaaGreatNetAt
import Derived.Test.YtgbbpliihglijaaGreatGBB
import Derived.Test.YtgbbpliihglijaaGreatNetS
namespace Go.Proofs.YtgbbpliihglijaaGreat
open Go Go.RowKit
namespace NetSa
open Kit LexM TermM TermI TermN TermU TermH UniK UniD NetM NetN NetK RdM RdN RdC NetAt
theorem flat_get {α : Type} (f : α → List Value) (sz : Nat) (hlen : ∀ x, (f x).length = sz) : ∀ (L : List α) (i : Nat) (x : α) (j : Nat) (u : Value), L[i]? = some x → (f x)[j]? = some u → (L.flatMap f)[i * sz + j]? = some u
  | [], _, _, _, _, h, _ => by simp at h
  | a :: L, 0, x, j, u, h, hu => by
    simp at h
    subst h
    rw [List.flatMap_cons, Nat.zero_mul, Nat.zero_add, List.getElem?_append_left (List.getElem?_eq_some_iff.1 hu).1]
    exact hu
  | a :: L, i + 1, x, j, u, h, hu => by
    rw [List.flatMap_cons, List.getElem?_append_right (by rw [hlen, Nat.succ_mul]; omega), hlen, show (i + 1) * sz + j - sz = i * sz + j by rw [Nat.succ_mul]; omega]
    exact flat_get f sz hlen L i x j u (by simpa using h) hu
/-- A block that holds the elements one after another is a row. -/
theorem row_has {α : Type} {K : Ke α} {ok : Nat → Prop} {w : World} {g : Nat} {L : List α} {cs : Array Value} (hcs : cs.toList = L.flatMap K.cells) (h : Has w g cs) (hg : ok g) (hm : L.length ≤ maxLen) (hi : ∀ x ∈ L, K.inn ok w x) : RowE K ok w L (.slice (some ⟨g, 0, none⟩) L.length L.length) := by
  refine ⟨_, _, rfl, (fun e => by cases e), Nat.le_refl _, hm, hi, fun _ => ⟨g, 0, rfl, hg, fun i x hx j u hu => ?_⟩⟩
  rw [h.cell, Nat.zero_add, ← flat_get K.cells K.sz K.len L i x j u hx hu, ← hcs, Array.getElem?_toList]
theorem Has.put {w : World} {g : Nat} {cs cs' : Array Value} (h : Has w g cs) (i : Nat) (v : Value) (e : cs.setIfInBounds i v = cs') : Has (w.setCell ⟨g, i, none⟩ v) g cs' := e ▸ h.set i v
theorem has11 {w : World} {g : Nat} {a0 a1 a2 a3 a4 a5 a6 a7 a8 a9 a10 v0 v1 v2 v3 v4 v5 v6 v7 v8 v9 v10 : Value} (h : Has w g #[a0, a1, a2, a3, a4, a5, a6, a7, a8, a9, a10]) : Has (((((((((((w.setCell ⟨g, 0, none⟩ v0).setCell ⟨g, 1, none⟩ v1).setCell ⟨g, 2, none⟩ v2).setCell ⟨g, 3, none⟩ v3).setCell ⟨g, 4, none⟩ v4).setCell ⟨g, 5, none⟩ v5).setCell ⟨g, 6, none⟩ v6).setCell ⟨g, 7, none⟩ v7).setCell ⟨g, 8, none⟩ v8).setCell ⟨g, 9, none⟩ v9).setCell ⟨g, 10, none⟩ v10) g #[v0, v1, v2, v3, v4, v5, v6, v7, v8, v9, v10] := by
  have h1 : Has (w.setCell ⟨g, 0, none⟩ v0) g #[v0, a1, a2, a3, a4, a5, a6, a7, a8, a9, a10] := NetSa.Has.put h 0 v0 rfl
  have h2 : Has ((w.setCell ⟨g, 0, none⟩ v0).setCell ⟨g, 1, none⟩ v1) g #[v0, v1, a2, a3, a4, a5, a6, a7, a8, a9, a10] := NetSa.Has.put h1 1 v1 rfl
  have h3 : Has (((w.setCell ⟨g, 0, none⟩ v0).setCell ⟨g, 1, none⟩ v1).setCell ⟨g, 2, none⟩ v2) g #[v0, v1, v2, a3, a4, a5, a6, a7, a8, a9, a10] := NetSa.Has.put h2 2 v2 rfl
  have h4 : Has ((((w.setCell ⟨g, 0, none⟩ v0).setCell ⟨g, 1, none⟩ v1).setCell ⟨g, 2, none⟩ v2).setCell ⟨g, 3, none⟩ v3) g #[v0, v1, v2, v3, a4, a5, a6, a7, a8, a9, a10] := NetSa.Has.put h3 3 v3 rfl
  have h5 : Has (((((w.setCell ⟨g, 0, none⟩ v0).setCell ⟨g, 1, none⟩ v1).setCell ⟨g, 2, none⟩ v2).setCell ⟨g, 3, none⟩ v3).setCell ⟨g, 4, none⟩ v4) g #[v0, v1, v2, v3, v4, a5, a6, a7, a8, a9, a10] := NetSa.Has.put h4 4 v4 rfl
  have h6 : Has ((((((w.setCell ⟨g, 0, none⟩ v0).setCell ⟨g, 1, none⟩ v1).setCell ⟨g, 2, none⟩ v2).setCell ⟨g, 3, none⟩ v3).setCell ⟨g, 4, none⟩ v4).setCell ⟨g, 5, none⟩ v5) g #[v0, v1, v2, v3, v4, v5, a6, a7, a8, a9, a10] := NetSa.Has.put h5 5 v5 rfl
  have h7 : Has (((((((w.setCell ⟨g, 0, none⟩ v0).setCell ⟨g, 1, none⟩ v1).setCell ⟨g, 2, none⟩ v2).setCell ⟨g, 3, none⟩ v3).setCell ⟨g, 4, none⟩ v4).setCell ⟨g, 5, none⟩ v5).setCell ⟨g, 6, none⟩ v6) g #[v0, v1, v2, v3, v4, v5, v6, a7, a8, a9, a10] := NetSa.Has.put h6 6 v6 rfl
  have h8 : Has ((((((((w.setCell ⟨g, 0, none⟩ v0).setCell ⟨g, 1, none⟩ v1).setCell ⟨g, 2, none⟩ v2).setCell ⟨g, 3, none⟩ v3).setCell ⟨g, 4, none⟩ v4).setCell ⟨g, 5, none⟩ v5).setCell ⟨g, 6, none⟩ v6).setCell ⟨g, 7, none⟩ v7) g #[v0, v1, v2, v3, v4, v5, v6, v7, a8, a9, a10] := NetSa.Has.put h7 7 v7 rfl
  have h9 : Has (((((((((w.setCell ⟨g, 0, none⟩ v0).setCell ⟨g, 1, none⟩ v1).setCell ⟨g, 2, none⟩ v2).setCell ⟨g, 3, none⟩ v3).setCell ⟨g, 4, none⟩ v4).setCell ⟨g, 5, none⟩ v5).setCell ⟨g, 6, none⟩ v6).setCell ⟨g, 7, none⟩ v7).setCell ⟨g, 8, none⟩ v8) g #[v0, v1, v2, v3, v4, v5, v6, v7, v8, a9, a10] := NetSa.Has.put h8 8 v8 rfl
  have h10 : Has ((((((((((w.setCell ⟨g, 0, none⟩ v0).setCell ⟨g, 1, none⟩ v1).setCell ⟨g, 2, none⟩ v2).setCell ⟨g, 3, none⟩ v3).setCell ⟨g, 4, none⟩ v4).setCell ⟨g, 5, none⟩ v5).setCell ⟨g, 6, none⟩ v6).setCell ⟨g, 7, none⟩ v7).setCell ⟨g, 8, none⟩ v8).setCell ⟨g, 9, none⟩ v9) g #[v0, v1, v2, v3, v4, v5, v6, v7, v8, v9, a10] := NetSa.Has.put h9 9 v9 rfl
  have h11 : Has (((((((((((w.setCell ⟨g, 0, none⟩ v0).setCell ⟨g, 1, none⟩ v1).setCell ⟨g, 2, none⟩ v2).setCell ⟨g, 3, none⟩ v3).setCell ⟨g, 4, none⟩ v4).setCell ⟨g, 5, none⟩ v5).setCell ⟨g, 6, none⟩ v6).setCell ⟨g, 7, none⟩ v7).setCell ⟨g, 8, none⟩ v8).setCell ⟨g, 9, none⟩ v9).setCell ⟨g, 10, none⟩ v10) g #[v0, v1, v2, v3, v4, v5, v6, v7, v8, v9, v10] := NetSa.Has.put h10 10 v10 rfl
  exact h11
def tx : Tm := .mk ⟨#[120]⟩ []
def ts : Tm := .mk ⟨#[115]⟩ []
def ta : Tm := .mk ⟨#[97]⟩ []
/-- The sample. -/
def smpN : Nt := { gates := [(2, 0, []), (6, 0, [0]), (4, 0, [0, 1])], roles := [tx], bases := [ts], inputs := [(0, ta)], initial := [0], next := [2], legal := [0], goals := [], sees := [], last := 1, hid := false }
theorem at_x : atom (⟨#[120]⟩ : ByteArray).data.toList = tx := by kernel_rfl
theorem at_s : atom (⟨#[115]⟩ : ByteArray).data.toList = ts := by kernel_rfl
theorem at_a : atom (⟨#[97]⟩ : ByteArray).data.toList = ta := by kernel_rfl
theorem one_x : (signL 44 (term (wordL (⟨#[120]⟩ : ByteArray).data.toList).1 (wordL (⟨#[120]⟩ : ByteArray).data.toList).2).2).1 = false := by kernel_rfl
theorem one_s : (signL 44 (term (wordL (⟨#[115]⟩ : ByteArray).data.toList).1 (wordL (⟨#[115]⟩ : ByteArray).data.toList).2).2).1 = false := by kernel_rfl
theorem smp_ok : chkN groundB smpN = 0 := by kernel_rfl
theorem smp_sz : NetS.SzN smpN := by
  refine ⟨?_, ?_, ?_, ?_, ?_, ?_, ?_⟩
  · intro t ht
    rw [List.mem_singleton.1 ht]
    decide
  · intro t ht
    rw [List.mem_singleton.1 ht]
    decide
  · intro t ht
    cases ht
  all_goals decide
/-- A new network. -/
def SaQ (n : Nt) (w : World) (e : Ending) (w' : World) : Prop := ∃ h : Nh, e = .returned (.agg (netC n h)) ∧ NetIn (fun b => w.heap.size ≤ b ∧ b < w'.heap.size) w' n h ∧ Below w.heap.size w w'
set_option maxRecDepth 100000 in
set_option maxHeartbeats 6400000 in
theorem sample_any (w : World) : Calls Tryz.prog 23 #[] w (SaQ smpN w) := by
  obtain ⟨W0, hW0⟩ : ∃ z, z = w.alloc (.cells #[.slice none 0 0, .slice none 0 0, .slice none 0 0, .slice none 0 0, .slice none 0 0, .slice none 0 0, .slice none 0 0, .slice none 0 0, .slice none 0 0, .int .i64 0, .bool false] 28) := ⟨_, rfl⟩
  have hz0 : W0.heap.size = w.heap.size + 1 := by rw [hW0]; simp
  have B0 : Hid (Below w.heap.size w W0) := Lib.hid (by rw [hW0]; exact below_alloc _ _)
  have N0 : Hid (Has W0 w.heap.size #[.slice none 0 0, .slice none 0 0, .slice none 0 0, .slice none 0 0, .slice none 0 0, .slice none 0 0, .slice none 0 0, .slice none 0 0, .slice none 0 0, .int .i64 0, .bool false]) := Lib.hid (by rw [hW0]; exact Has.new _ _ _)
  obtain ⟨W3, hW3⟩ : ∃ z, z = (((W0.alloc (.cells #[.int .i64 0] 3)).alloc (.cells #[.int .i64 0, .int .i64 1] 3)).alloc (.cells #[.int .i64 2, .int .i64 0, .slice none 0 0, .int .i64 6, .int .i64 0, .slice (some ⟨W0.heap.size, 0, none⟩) 1 1, .int .i64 4, .int .i64 0, .slice (some ⟨W0.heap.size + 1, 0, none⟩) 2 2] 55)) := ⟨_, rfl⟩
  have hz3 : W3.heap.size = W0.heap.size + 3 := by rw [hW3]; simp
  have B3 : Hid (Below W0.heap.size W0 W3) := Lib.hid (by rw [hW3]; exact next0 (next0 (below_alloc _ _) (below_alloc _ _)) (below_alloc _ _))
  have L1 : Hid (Has W3 W0.heap.size #[.int .i64 0]) := Lib.hid (by rw [hW3]; exact ((Has.new _ _ _).alloc _).alloc _)
  have L2 : Hid (Has W3 (W0.heap.size + 1) #[.int .i64 0, .int .i64 1]) := Lib.hid (by rw [hW3]; exact (Has.new1 _ _ _ _).alloc _)
  have L3 : Hid (Has W3 (W0.heap.size + 1 + 1) #[.int .i64 2, .int .i64 0, .slice none 0 0, .int .i64 6, .int .i64 0, .slice (some ⟨W0.heap.size, 0, none⟩) 1 1, .int .i64 4, .int .i64 0, .slice (some ⟨W0.heap.size + 1, 0, none⟩) 2 2]) := Lib.hid (by rw [hW3]; exact Has.new2 _ _ _ _ _)
  have AX := Lib.hid (fun w' => atoms_one ⟨#[120]⟩ (by decide) (by decide) (by decide) one_x w')
  have AS := Lib.hid (fun w' => atoms_one ⟨#[115]⟩ (by decide) (by decide) (by decide) one_s w')
  have AA := Lib.hid (fun w' => atom_any ⟨#[97]⟩ (by decide) (by decide) w')
  rw [at_x] at AX
  rw [at_s] at AS
  rw [at_a] at AA
  have A1 := Lib.hid (AX.out W3)
  have HZ0 := Lib.hid hz0
  have HZ3 := Lib.hid hz3
  clear hz0 hz3
  go_enter Tryz.func23, Tryz.ntmps23
  go_upto_region 1 with fail
  rw [← hW0]
  clear hW0
  go_wp2_with fail
  rw [← hW3]
  clear hW3
  refine A1.out.mono ?_
  rintro e w4 ⟨v4, rfl, s4, b4⟩
  have S4 := Lib.hid s4
  have B4 := Lib.hid b4
  obtain ⟨p4, c4, rfl⟩ := SlIn.form s4
  clear s4 b4 A1 AX
  have A2 := Lib.hid (AS.out w4)
  go_wp2_with fail
  refine A2.out.mono ?_
  rintro e w5 ⟨v5, rfl, s5, b5⟩
  have S5 := Lib.hid s5
  have B5 := Lib.hid b5
  obtain ⟨p5, c5, rfl⟩ := SlIn.form s5
  clear s5 b5 A2 AS
  have A3 := Lib.hid (AA.out w5)
  go_wp2_with fail
  refine A3.out.mono ?_
  rintro e w6 ⟨q6, d6, rfl, s6, n6, b6⟩
  have S6 := Lib.hid s6
  have B6 := Lib.hid b6
  have N6 := Lib.hid n6
  clear s6 b6 n6 A3 AA
  obtain ⟨WX, hWX⟩ : ∃ z, z = (((w6.alloc (.cells #[.int .i64 0, .string ta.nm, .slice q6 ta.args.length d6] 60)).alloc (.cells #[.int .i64 0] 3)).alloc (.cells #[.int .i64 2] 3)).alloc (.cells #[.int .i64 0] 3) := ⟨_, rfl⟩
  have hzx : Hid (WX.heap.size = w6.heap.size + 4) := Lib.hid (by rw [hWX]; simp)
  have BX : Hid (Below w6.heap.size w6 WX) := Lib.hid (by rw [hWX]; exact next0 (next0 (next0 (below_alloc _ _) (below_alloc _ _)) (below_alloc _ _)) (below_alloc _ _))
  have X1 : Hid (Has WX w6.heap.size #[.int .i64 0, .string ta.nm, .slice q6 ta.args.length d6]) := Lib.hid (by rw [hWX]; exact (((Has.new _ _ _).alloc _).alloc _).alloc _)
  have X2 : Hid (Has WX (w6.heap.size + 1) #[.int .i64 0]) := Lib.hid (by rw [hWX]; exact ((Has.new1 _ _ _ _).alloc _).alloc _)
  have X3 : Hid (Has WX (w6.heap.size + 1 + 1) #[.int .i64 2]) := Lib.hid (by rw [hWX]; exact (Has.new2 _ _ _ _ _).alloc _)
  have X4 : Hid (Has WX (w6.heap.size + 1 + 1 + 1) #[.int .i64 0]) := Lib.hid (by rw [hWX]; exact Has.new3 _ _ _ _ _ _)
  have B36 : Hid (Below W3.heap.size W3 WX) := Lib.hid (next0 (next0 (next0 B4.out B5.out) B6.out) BX.out)
  have HN : Hid (Has WX w.heap.size #[.slice none 0 0, .slice none 0 0, .slice none 0 0, .slice none 0 0, .slice none 0 0, .slice none 0 0, .slice none 0 0, .slice none 0 0, .slice none 0 0, .int .i64 0, .bool false]) := Lib.hid ((N0.out.step0 B3.out).step0 B36.out)
  have g0 : ((((w6.alloc (.cells #[.int .i64 0, .string ta.nm, .slice q6 ta.args.length d6] 60)).alloc (.cells #[.int .i64 0] 3)).alloc (.cells #[.int .i64 2] 3)).alloc (.cells #[.int .i64 0] 3)).cell? ⟨w.heap.size, 0, none⟩ = some (.slice none 0 0) := by rw [← hWX]; exact HN.out.cell 0
  have f0 : ((((w6.alloc (.cells #[.int .i64 0, .string ta.nm, .slice q6 ta.args.length d6] 60)).alloc (.cells #[.int .i64 0] 3)).alloc (.cells #[.int .i64 2] 3)).alloc (.cells #[.int .i64 0] 3)).frozen? ⟨w.heap.size, 0, none⟩ = false := by rw [← hWX]; exact HN.out.free 0
  have g1 : ((((w6.alloc (.cells #[.int .i64 0, .string ta.nm, .slice q6 ta.args.length d6] 60)).alloc (.cells #[.int .i64 0] 3)).alloc (.cells #[.int .i64 2] 3)).alloc (.cells #[.int .i64 0] 3)).cell? ⟨w.heap.size, 1, none⟩ = some (.slice none 0 0) := by rw [← hWX]; exact HN.out.cell 1
  have f1 : ((((w6.alloc (.cells #[.int .i64 0, .string ta.nm, .slice q6 ta.args.length d6] 60)).alloc (.cells #[.int .i64 0] 3)).alloc (.cells #[.int .i64 2] 3)).alloc (.cells #[.int .i64 0] 3)).frozen? ⟨w.heap.size, 1, none⟩ = false := by rw [← hWX]; exact HN.out.free 1
  have g2 : ((((w6.alloc (.cells #[.int .i64 0, .string ta.nm, .slice q6 ta.args.length d6] 60)).alloc (.cells #[.int .i64 0] 3)).alloc (.cells #[.int .i64 2] 3)).alloc (.cells #[.int .i64 0] 3)).cell? ⟨w.heap.size, 2, none⟩ = some (.slice none 0 0) := by rw [← hWX]; exact HN.out.cell 2
  have f2 : ((((w6.alloc (.cells #[.int .i64 0, .string ta.nm, .slice q6 ta.args.length d6] 60)).alloc (.cells #[.int .i64 0] 3)).alloc (.cells #[.int .i64 2] 3)).alloc (.cells #[.int .i64 0] 3)).frozen? ⟨w.heap.size, 2, none⟩ = false := by rw [← hWX]; exact HN.out.free 2
  have g3 : ((((w6.alloc (.cells #[.int .i64 0, .string ta.nm, .slice q6 ta.args.length d6] 60)).alloc (.cells #[.int .i64 0] 3)).alloc (.cells #[.int .i64 2] 3)).alloc (.cells #[.int .i64 0] 3)).cell? ⟨w.heap.size, 3, none⟩ = some (.slice none 0 0) := by rw [← hWX]; exact HN.out.cell 3
  have f3 : ((((w6.alloc (.cells #[.int .i64 0, .string ta.nm, .slice q6 ta.args.length d6] 60)).alloc (.cells #[.int .i64 0] 3)).alloc (.cells #[.int .i64 2] 3)).alloc (.cells #[.int .i64 0] 3)).frozen? ⟨w.heap.size, 3, none⟩ = false := by rw [← hWX]; exact HN.out.free 3
  have g4 : ((((w6.alloc (.cells #[.int .i64 0, .string ta.nm, .slice q6 ta.args.length d6] 60)).alloc (.cells #[.int .i64 0] 3)).alloc (.cells #[.int .i64 2] 3)).alloc (.cells #[.int .i64 0] 3)).cell? ⟨w.heap.size, 4, none⟩ = some (.slice none 0 0) := by rw [← hWX]; exact HN.out.cell 4
  have f4 : ((((w6.alloc (.cells #[.int .i64 0, .string ta.nm, .slice q6 ta.args.length d6] 60)).alloc (.cells #[.int .i64 0] 3)).alloc (.cells #[.int .i64 2] 3)).alloc (.cells #[.int .i64 0] 3)).frozen? ⟨w.heap.size, 4, none⟩ = false := by rw [← hWX]; exact HN.out.free 4
  have g5 : ((((w6.alloc (.cells #[.int .i64 0, .string ta.nm, .slice q6 ta.args.length d6] 60)).alloc (.cells #[.int .i64 0] 3)).alloc (.cells #[.int .i64 2] 3)).alloc (.cells #[.int .i64 0] 3)).cell? ⟨w.heap.size, 5, none⟩ = some (.slice none 0 0) := by rw [← hWX]; exact HN.out.cell 5
  have f5 : ((((w6.alloc (.cells #[.int .i64 0, .string ta.nm, .slice q6 ta.args.length d6] 60)).alloc (.cells #[.int .i64 0] 3)).alloc (.cells #[.int .i64 2] 3)).alloc (.cells #[.int .i64 0] 3)).frozen? ⟨w.heap.size, 5, none⟩ = false := by rw [← hWX]; exact HN.out.free 5
  have g6 : ((((w6.alloc (.cells #[.int .i64 0, .string ta.nm, .slice q6 ta.args.length d6] 60)).alloc (.cells #[.int .i64 0] 3)).alloc (.cells #[.int .i64 2] 3)).alloc (.cells #[.int .i64 0] 3)).cell? ⟨w.heap.size, 6, none⟩ = some (.slice none 0 0) := by rw [← hWX]; exact HN.out.cell 6
  have f6 : ((((w6.alloc (.cells #[.int .i64 0, .string ta.nm, .slice q6 ta.args.length d6] 60)).alloc (.cells #[.int .i64 0] 3)).alloc (.cells #[.int .i64 2] 3)).alloc (.cells #[.int .i64 0] 3)).frozen? ⟨w.heap.size, 6, none⟩ = false := by rw [← hWX]; exact HN.out.free 6
  have g7 : ((((w6.alloc (.cells #[.int .i64 0, .string ta.nm, .slice q6 ta.args.length d6] 60)).alloc (.cells #[.int .i64 0] 3)).alloc (.cells #[.int .i64 2] 3)).alloc (.cells #[.int .i64 0] 3)).cell? ⟨w.heap.size, 7, none⟩ = some (.slice none 0 0) := by rw [← hWX]; exact HN.out.cell 7
  have f7 : ((((w6.alloc (.cells #[.int .i64 0, .string ta.nm, .slice q6 ta.args.length d6] 60)).alloc (.cells #[.int .i64 0] 3)).alloc (.cells #[.int .i64 2] 3)).alloc (.cells #[.int .i64 0] 3)).frozen? ⟨w.heap.size, 7, none⟩ = false := by rw [← hWX]; exact HN.out.free 7
  have g8 : ((((w6.alloc (.cells #[.int .i64 0, .string ta.nm, .slice q6 ta.args.length d6] 60)).alloc (.cells #[.int .i64 0] 3)).alloc (.cells #[.int .i64 2] 3)).alloc (.cells #[.int .i64 0] 3)).cell? ⟨w.heap.size, 8, none⟩ = some (.slice none 0 0) := by rw [← hWX]; exact HN.out.cell 8
  have f8 : ((((w6.alloc (.cells #[.int .i64 0, .string ta.nm, .slice q6 ta.args.length d6] 60)).alloc (.cells #[.int .i64 0] 3)).alloc (.cells #[.int .i64 2] 3)).alloc (.cells #[.int .i64 0] 3)).frozen? ⟨w.heap.size, 8, none⟩ = false := by rw [← hWX]; exact HN.out.free 8
  have g9 : ((((w6.alloc (.cells #[.int .i64 0, .string ta.nm, .slice q6 ta.args.length d6] 60)).alloc (.cells #[.int .i64 0] 3)).alloc (.cells #[.int .i64 2] 3)).alloc (.cells #[.int .i64 0] 3)).cell? ⟨w.heap.size, 9, none⟩ = some (.int .i64 0) := by rw [← hWX]; exact HN.out.cell 9
  have f9 : ((((w6.alloc (.cells #[.int .i64 0, .string ta.nm, .slice q6 ta.args.length d6] 60)).alloc (.cells #[.int .i64 0] 3)).alloc (.cells #[.int .i64 2] 3)).alloc (.cells #[.int .i64 0] 3)).frozen? ⟨w.heap.size, 9, none⟩ = false := by rw [← hWX]; exact HN.out.free 9
  have g10 : ((((w6.alloc (.cells #[.int .i64 0, .string ta.nm, .slice q6 ta.args.length d6] 60)).alloc (.cells #[.int .i64 0] 3)).alloc (.cells #[.int .i64 2] 3)).alloc (.cells #[.int .i64 0] 3)).cell? ⟨w.heap.size, 10, none⟩ = some (.bool false) := by rw [← hWX]; exact HN.out.cell 10
  have f10 : ((((w6.alloc (.cells #[.int .i64 0, .string ta.nm, .slice q6 ta.args.length d6] 60)).alloc (.cells #[.int .i64 0] 3)).alloc (.cells #[.int .i64 2] 3)).alloc (.cells #[.int .i64 0] 3)).frozen? ⟨w.heap.size, 10, none⟩ = false := by rw [← hWX]; exact HN.out.free 10

  go_wp2_with fail
  rw [← hWX]
  obtain ⟨WF, hWF⟩ : ∃ z, z = (((((((((((WX.setCell ⟨w.heap.size, 0, none⟩ (.slice (some ⟨W0.heap.size + 1 + 1, 0, none⟩) 3 3)).setCell ⟨w.heap.size, 1, none⟩ (.slice p4 1 c4)).setCell ⟨w.heap.size, 2, none⟩ (.slice p5 1 c5)).setCell ⟨w.heap.size, 3, none⟩ (.slice (some ⟨w6.heap.size, 0, none⟩) 1 1)).setCell ⟨w.heap.size, 4, none⟩ (.slice (some ⟨w6.heap.size + 1, 0, none⟩) 1 1)).setCell ⟨w.heap.size, 5, none⟩ (.slice (some ⟨w6.heap.size + 1 + 1, 0, none⟩) 1 1)).setCell ⟨w.heap.size, 6, none⟩ (.slice (some ⟨w6.heap.size + 1 + 1 + 1, 0, none⟩) 1 1)).setCell ⟨w.heap.size, 7, none⟩ (.slice none 0 0)).setCell ⟨w.heap.size, 8, none⟩ (.slice none 0 0)).setCell ⟨w.heap.size, 9, none⟩ (.int .i64 1)).setCell ⟨w.heap.size, 10, none⟩ (.bool false)) := ⟨_, rfl⟩
  rw [← hWF]
  have HF : Hid (Has WF w.heap.size #[.slice (some ⟨W0.heap.size + 1 + 1, 0, none⟩) 3 3, .slice p4 1 c4, .slice p5 1 c5, .slice (some ⟨w6.heap.size, 0, none⟩) 1 1, .slice (some ⟨w6.heap.size + 1, 0, none⟩) 1 1, .slice (some ⟨w6.heap.size + 1 + 1, 0, none⟩) 1 1, .slice (some ⟨w6.heap.size + 1 + 1 + 1, 0, none⟩) 1 1, .slice none 0 0, .slice none 0 0, .int .i64 1, .bool false]) := Lib.hid (by rw [hWF]; exact has11 HN.out)
  have HG : Hid (∀ g cs, g ≠ w.heap.size → Has WX g cs → Has WF g cs) := Lib.hid (fun g cs hg k => by rw [hWF]; exact (Has.far (p := ⟨w.heap.size, 10, none⟩) (Has.far (p := ⟨w.heap.size, 9, none⟩) (Has.far (p := ⟨w.heap.size, 8, none⟩) (Has.far (p := ⟨w.heap.size, 7, none⟩) (Has.far (p := ⟨w.heap.size, 6, none⟩) (Has.far (p := ⟨w.heap.size, 5, none⟩) (Has.far (p := ⟨w.heap.size, 4, none⟩) (Has.far (p := ⟨w.heap.size, 3, none⟩) (Has.far (p := ⟨w.heap.size, 2, none⟩) (Has.far (p := ⟨w.heap.size, 1, none⟩) (Has.far (p := ⟨w.heap.size, 0, none⟩) k hg _) hg _) hg _) hg _) hg _) hg _) hg _) hg _) hg _) hg _) hg _))
  have FAR : Hid (∀ b o, b ≠ w.heap.size → WF.cell? ⟨b, o, none⟩ = WX.cell? ⟨b, o, none⟩) := Lib.hid (fun b o hb => by rw [hWF, cell_far hb, cell_far hb, cell_far hb, cell_far hb, cell_far hb, cell_far hb, cell_far hb, cell_far hb, cell_far hb, cell_far hb, cell_far hb])
  have SZF : Hid (WF.heap.size = WX.heap.size) := Lib.hid (by rw [hWF]; simp [World.setCell])
  have BW : Hid (Below w.heap.size w WX) := Lib.hid (next0 (next0 B0.out B3.out) B36.out)
  have BF : Hid (Below w.heap.size w WF) := Lib.hid (by rw [hWF]; exact (((((((((((BW.out.setCell (p := ⟨w.heap.size, 0, none⟩) (Nat.le_refl _) _).setCell (p := ⟨w.heap.size, 1, none⟩) (Nat.le_refl _) _).setCell (p := ⟨w.heap.size, 2, none⟩) (Nat.le_refl _) _).setCell (p := ⟨w.heap.size, 3, none⟩) (Nat.le_refl _) _).setCell (p := ⟨w.heap.size, 4, none⟩) (Nat.le_refl _) _).setCell (p := ⟨w.heap.size, 5, none⟩) (Nat.le_refl _) _).setCell (p := ⟨w.heap.size, 6, none⟩) (Nat.le_refl _) _).setCell (p := ⟨w.heap.size, 7, none⟩) (Nat.le_refl _) _).setCell (p := ⟨w.heap.size, 8, none⟩) (Nat.le_refl _) _).setCell (p := ⟨w.heap.size, 9, none⟩) (Nat.le_refl _) _).setCell (p := ⟨w.heap.size, 10, none⟩) (Nat.le_refl _) _))
  clear hWF hWX g0 f0 g1 f1 g2 f2 g3 f3 g4 f4 g5 f5 g6 f6 g7 f7 g8 f8 g9 f9 g10 f10
  have r0 : WF.cell? ⟨w.heap.size, 0, none⟩ = some (.slice (some ⟨W0.heap.size + 1 + 1, 0, none⟩) 3 3) := HF.out.cell 0
  have r1 : WF.cell? ⟨w.heap.size, 1, none⟩ = some (.slice p4 1 c4) := HF.out.cell 1
  have r2 : WF.cell? ⟨w.heap.size, 2, none⟩ = some (.slice p5 1 c5) := HF.out.cell 2
  have r3 : WF.cell? ⟨w.heap.size, 3, none⟩ = some (.slice (some ⟨w6.heap.size, 0, none⟩) 1 1) := HF.out.cell 3
  have r4 : WF.cell? ⟨w.heap.size, 4, none⟩ = some (.slice (some ⟨w6.heap.size + 1, 0, none⟩) 1 1) := HF.out.cell 4
  have r5 : WF.cell? ⟨w.heap.size, 5, none⟩ = some (.slice (some ⟨w6.heap.size + 1 + 1, 0, none⟩) 1 1) := HF.out.cell 5
  have r6 : WF.cell? ⟨w.heap.size, 6, none⟩ = some (.slice (some ⟨w6.heap.size + 1 + 1 + 1, 0, none⟩) 1 1) := HF.out.cell 6
  have r7 : WF.cell? ⟨w.heap.size, 7, none⟩ = some (.slice none 0 0) := HF.out.cell 7
  have r8 : WF.cell? ⟨w.heap.size, 8, none⟩ = some (.slice none 0 0) := HF.out.cell 8
  have r9 : WF.cell? ⟨w.heap.size, 9, none⟩ = some (.int .i64 1) := HF.out.cell 9
  have r10 : WF.cell? ⟨w.heap.size, 10, none⟩ = some (.bool false) := HF.out.cell 10
  have a0 := HZ0.out
  have a3 := HZ3.out
  have a4 := B4.out.size
  have a5 := B5.out.size
  have a6 := B6.out.size
  have aX := hzx.out
  have aF := SZF.out
  have NI : Hid (NetIn (fun b => w.heap.size ≤ b ∧ b < WF.heap.size) WF smpN ⟨some ⟨W0.heap.size + 1 + 1, 0, none⟩, 3, p4, c4, p5, c5, some ⟨w6.heap.size, 0, none⟩, 1, some ⟨w6.heap.size + 1, 0, none⟩, 1, some ⟨w6.heap.size + 1 + 1, 0, none⟩, 1, some ⟨w6.heap.size + 1 + 1 + 1, 0, none⟩, 1, none, 0, none, 0⟩) := Lib.hid (by
    have I0 : I64 0 := by unfold I64; omega
    have I1 : I64 1 := by unfold I64; omega
    have I2 : I64 2 := by unfold I64; omega
    have I4 : I64 4 := by unfold I64; omega
    have I6 : I64 6 := by unfold I64; omega
    have K0 : RowE KN (fun b => w.heap.size ≤ b ∧ b < WF.heap.size) WF [0] (.slice (some ⟨W0.heap.size, 0, none⟩) 1 1) := row_has (L := [0]) rfl (HG.out _ _ (by omega) (L1.out.step0 B36.out)) ⟨by omega, by omega⟩ (by decide) (fun x hx => by rw [List.mem_singleton.1 hx]; exact I0)
    have K1 : RowE KN (fun b => w.heap.size ≤ b ∧ b < WF.heap.size) WF [0, 1] (.slice (some ⟨W0.heap.size + 1, 0, none⟩) 2 2) := row_has (L := [0, 1]) rfl (HG.out _ _ (by omega) (L2.out.step0 B36.out)) ⟨by omega, by omega⟩ (by decide) (fun x hx => by
      rcases List.mem_cons.1 hx with rfl | hx
      · exact I0
      · rw [List.mem_singleton.1 hx]; exact I1)
    refine ⟨⟨[((2, 0, []), .slice none 0 0), ((6, 0, [0]), .slice (some ⟨W0.heap.size, 0, none⟩) 1 1), ((4, 0, [0, 1]), .slice (some ⟨W0.heap.size + 1, 0, none⟩) 2 2)], rfl, ?_⟩, ?_, ?_, ⟨[((0, ta), .slice q6 ta.args.length d6)], rfl, ?_⟩, ?_, ?_, ?_, LE.nil _ _, LE.nil _ _, I1⟩
    · refine row_has (K := KG) (L := [((2, 0, []), .slice none 0 0), ((6, 0, [0]), .slice (some ⟨W0.heap.size, 0, none⟩) 1 1), ((4, 0, [0, 1]), .slice (some ⟨W0.heap.size + 1, 0, none⟩) 2 2)]) rfl (HG.out _ _ (by omega) (L3.out.step0 B36.out)) ⟨by omega, by omega⟩ (show 3 ≤ maxLen by decide) (fun x hx => ?_)
      rcases List.mem_cons.1 hx with rfl | hx
      · exact ⟨RowE.nil _ _, I2, I0⟩
      rcases List.mem_cons.1 hx with rfl | hx
      · exact ⟨K0, I6, I0⟩
      · rw [List.mem_singleton.1 hx]
        exact ⟨K1, I4, I0⟩
    · exact (S4.out.frame fun b o hb => (FAR.out b o (by omega)).trans ((next0 (next0 B5.out B6.out) BX.out).cell (p := ⟨b, o, none⟩) hb.2)).weaken fun b hb => ⟨by omega, by omega⟩
    · exact (S5.out.frame fun b o hb => (FAR.out b o (by omega)).trans ((next0 B6.out BX.out).cell (p := ⟨b, o, none⟩) hb.2)).weaken fun b hb => ⟨by omega, by omega⟩
    · refine row_has (K := KP) (L := [((0, ta), .slice q6 ta.args.length d6)]) rfl (HG.out _ _ (by omega) X1.out) ⟨by omega, by omega⟩ (show 1 ≤ maxLen by decide) (fun x hx => ?_)
      rw [List.mem_singleton.1 hx]
      exact ⟨(S6.out.frame fun b o hb => (FAR.out b o (by omega)).trans (BX.out.cell (p := ⟨b, o, none⟩) hb.2)).weaken fun b hb => ⟨by omega, by omega⟩, N6.out, I0⟩
    · exact row_has (L := [0]) rfl (HG.out _ _ (by omega) X2.out) ⟨by omega, by omega⟩ (by decide) (fun x hx => by rw [List.mem_singleton.1 hx]; exact I0)
    · exact row_has (L := [2]) rfl (HG.out _ _ (by omega) X3.out) ⟨by omega, by omega⟩ (by decide) (fun x hx => by rw [List.mem_singleton.1 hx]; exact I2)
    · exact row_has (L := [0]) rfl (HG.out _ _ (by omega) X4.out) ⟨by omega, by omega⟩ (by decide) (fun x hx => by rw [List.mem_singleton.1 hx]; exact I0))
  clear a0 a3 a4 a5 a6 aX aF
  refine bodyPost_ret (v := .agg #[.slice (some ⟨W0.heap.size + 1 + 1, 0, none⟩) 3 3, .slice p4 1 c4, .slice p5 1 c5, .slice (some ⟨w6.heap.size, 0, none⟩) 1 1, .slice (some ⟨w6.heap.size + 1, 0, none⟩) 1 1, .slice (some ⟨w6.heap.size + 1 + 1, 0, none⟩) 1 1, .slice (some ⟨w6.heap.size + 1 + 1 + 1, 0, none⟩) 1 1, .slice none 0 0, .slice none 0 0, .int .i64 1, .bool false]) (by simp [results, Tryz.results23, go_sem, r0, r1, r2, r3, r4, r5, r6, r7, r8, r9, r10]) rfl ?_
  exact ⟨_, rfl, NI.out, BF.out⟩
end NetSa
end Go.Proofs.YtgbbpliihglijaaGreat
