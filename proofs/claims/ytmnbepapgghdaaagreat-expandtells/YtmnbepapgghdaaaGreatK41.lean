/-
  ExpandTells: its walk.
  Arguments that came in, read as plain lists: tokens, bytes.
  Arguments that came in, read as plain lists: files; two bytes.
  Arguments that came in, read as plain lists: two numbers.
-/
import Derived.Test.YtmnbepapgghdaaaGreatK36
import Derived.Test.YtmnbepapgghdaaaGreatK40
import Derived.Deep.RegionHeld3
import Derived.Test.YtmnbepapgghdaaaGreatK03
import Derived.Deep.SlicePairs
import Derived.Lib.SmallJoins
import Derived.ProofKit
import Derived.OpenShut
import Derived.Test.YtmnbepapgghdaaaGreatK22
namespace Go.Proofs.YtmnbepapgghdaaaGreat
open Go.RowKit

/-- Both numbers are small, or one is such that nothing is expanded. -/
def Small (f m : Int) : Prop := (0 ≤ f ∧ f ≤ 40 ∧ 0 ≤ m ∧ m ≤ 300) ∨ (f < 0 ∨ 1000 < f ∨ m < 0 ∨ 20000 < m)
theorem tmod_small {a b : Int} (h : 0 < b) (ha : 0 ≤ a) : 0 ≤ a.tmod b ∧ a.tmod b < b := by
  rw [Int.tmod_eq_emod_of_nonneg ha]
  exact ⟨Int.emod_nonneg _ (by omega), Int.emod_lt_of_pos _ h⟩
set_option maxRecDepth 100000 in
set_option maxHeartbeats 2000000 in
theorem bound_any (a b : Int) (w : World) : Calls Tryz.prog 10 #[.int .i64 a, .int .i64 b] w fun en w' => ∃ f m : Int, en = .returned (.tuple #[.int .i64 f, .int .i64 m]) ∧ Small f m ∧ w = w' := by
  have ha : a ≤ 40 ∨ (40 < a ∧ a ≤ 1000) ∨ (40 < a ∧ 1000 < a) := by omega
  have hb : b ≤ 300 ∨ (300 < b ∧ b ≤ 20000) ∨ (300 < b ∧ 20000 < b) := by omega
  obtain ⟨x, hx⟩ : ∃ x, a.tmod 40 = x := ⟨_, rfl⟩
  obtain ⟨y, hy⟩ : ∃ y, b.tmod 300 = y := ⟨_, rfl⟩
  have HX := Lib.hid (show 0 ≤ a → 0 ≤ x ∧ x < 40 from fun q => by rw [← hx]; exact tmod_small (by omega) q)
  have HY := Lib.hid (show 0 ≤ b → 0 ≤ y ∧ y < 300 from fun q => by rw [← hy]; exact tmod_small (by omega) q)
  rcases ha with h1 | ⟨h1, h2⟩ | ⟨h1, h2⟩ <;> rcases hb with k1 | ⟨k1, k2⟩ | ⟨k1, k2⟩
  all_goals
    go_enter Tryz.func10, Tryz.ntmps10
    go_wp2_with fail
    go_ret2
    exact ⟨_, _, rfl, by have q1 := HX.out; have q2 := HY.out; unfold Small; omega, rfl⟩
theorem enter15t (args : Array Value) (w : World) : (callFunc 15 args).run Tryz.prog w = .ok (.enter 15 args) w := enter_of Tryz.func15 (by kernel_rfl) (by kernel_rfl) args w
/-- What both expansions answer. -/
def TPost (r : Res8) (k : Int) (w : World) (en : Ending) (w' : World) : Prop :=
  ∃ (LA RA NA : Option Addr) (lc rc nc : Nat), en = .returned (.tuple #[.agg (outC LA RA NA lc rc nc r), .int .i64 k]) ∧ RdO w' LA RA NA r ∧ Below w.heap.size w w'
theorem rdo_none (w : World) : RdO w none none none ([], [], [], 0) := ⟨fun h => absurd h (Nat.lt_irrefl 0), fun h => absurd h (Nat.lt_irrefl 0), fun h => absurd h (Nat.lt_irrefl 0)⟩
/-- Both answer the same. -/
theorem both_same (fs : List Fl.Fl) (main : By) (B : Option Addr) (d : Nat) (f m : Int) (h : Small f m) (htx : ∀ f ∈ fs, f.2.length ≤ 400) : ∃ (R : Res8) (k : Int), Sm R ∧
    (∀ W, Fs W B fs → Calls Tryz.prog 11 #[.slice B fs.length d, .string ⟨main.toArray⟩, .int .i64 f, .int .i64 m] W (TPost R k W)) ∧
    (∀ W, Fs W B fs → Calls Tryz.prog 12 #[.slice B fs.length d, .string ⟨main.toArray⟩, .int .i64 f, .int .i64 m] W (TPost R k W)) := by
  rcases h with ⟨h1, h2, h3, h4⟩ | h
  · obtain ⟨fuel, rfl⟩ : ∃ n : Nat, f = n := ⟨f.toNat, by omega⟩
    obtain ⟨most, rfl⟩ : ∃ n : Nat, m = n := ⟨m.toNat, by omega⟩
    refine ⟨outX (expE Fl.nmOk (flF fs) fuel most main), 0, sm_of (by omega) (by omega) (fun f hf => by have := htx f hf; omega), fun W hF => ?_, fun W hF => ?_⟩
    · exact (expand_go fs main B d fuel most W (by omega) (by omega) hF).mono fun en w' ⟨LA, RA, NA, lc, rc, nc, q1, q2, q3⟩ => ⟨LA, RA, NA, lc, rc, nc, q1, q2.rdo, q3⟩
    · exact rexpand_go fs main B d fuel most W (by omega) (by omega) hF htx
  · refine ⟨([], [], [], 0), 1, ⟨by decide, by decide, by decide⟩, fun W _ => ?_, fun W _ => ?_⟩
    · exact (expand_bad B fs.length d main f m W h).mono fun en w' ⟨q1, q2⟩ => ⟨none, none, none, 0, 0, 0, q1, rdo_none _, q2⟩
    · exact (rexpand_bad B fs.length d main f m W h).mono fun en w' ⟨q1, q2⟩ => ⟨none, none, none, 0, 0, 0, q1, rdo_none _, q2⟩
set_option maxRecDepth 100000 in
set_option maxHeartbeats 4000000 in
theorem expandTells_walk (A : Option Addr) (c : Nat) (fs : List Fl.Fl) (main : By) (x y : Int) (w : World) (hr : Fl.Rd w A fs) (hfit : Hid (Fl.Fit fs)) (hl : fs.length ≤ 9223372036854775807) :
    Calls Tryz.prog 3 #[.slice A fs.length c, .string ⟨main.toArray⟩, .agg #[.int .i64 x, .int .i64 y]] w fun en w' => en = .returned (.bool true) ∧ Below w.heap.size w w' := by
  have b0 := one_below w (.cells #[.int .i64 x, .int .i64 y] 23)
  have CF := Lib.hid (files_any A c fs (w.alloc (.cells #[.int .i64 x, .int .i64 y] 23)) (hr.below b0) hfit hl)
  have HB0 := Lib.hid b0
  have G0 := Lib.hid (new_fst w (.int .i64 x) (.int .i64 y) 23)
  have G1 := Lib.hid (new_snd w (.int .i64 x) (.int .i64 y) 23)
  clear hr hfit b0
  go_enter Tryz.func3, Tryz.ntmps3
  go_wp2_with fail
  refine CF.out.mono ?_
  rintro en w1 ⟨B, d, rfl, ho, hb1⟩
  have k0 := cell_below hb1 G0.out
  have k1 := cell_below hb1 G1.out
  have HF := Lib.hid (map_fs fs ho.rd)
  have HB1 := Lib.hid (bch HB0.out hb1)
  have HT := Lib.hid (show ∀ f ∈ Fl.mapL fs 6 200, f.2.length ≤ 400 from fun f hf => by have := Fl.mapL_txt fs 6 200 f hf; omega)
  obtain ⟨fs6, hfs⟩ : ∃ fs6, Fl.mapL fs 6 200 = fs6 := ⟨_, rfl⟩
  rw [hfs] at HF HT ⊢
  clear ho hb1 hfs CF G0 G1 hl
  go_wp2_with fail
  refine (bound_any x y w1).mono ?_
  rintro en w2 ⟨f, m, rfl, hsm, rfl⟩
  obtain ⟨R, k, hS, h11, h12⟩ := both_same fs6 main B d f m hsm HT.out
  have HS := Lib.hid hS
  have H11 := Lib.hid h11
  have H12 := Lib.hid h12
  have CR := Lib.hid (fun (LA RA NA : Option Addr) (lc rc nc : Nat) W1 (h : RdO W1 LA RA NA R) => ref_any LA RA NA lc rc nc R W1 h.l (by have := hS.1; omega))
  have CS := Lib.hid (fun (LA RA NA LB RB NB : Option Addr) (lc rc nc ld rd nd : Nat) W1 (h : RdO W1 LA RA NA R) (g : RdO W1 LB RB NB R) => same8_any LA RA NA LB RB NB lc rc nc ld rd nd R W1 h g hS)
  unfold outC at CR CS
  clear hsm hS h11 h12 k0 k1
  go_wp2_with fail
  refine (H11.out w1 HF.out).mono ?_
  rintro en w3 ⟨LA, RA, NA, lc, rc, nc, rfl, ho, hb3⟩
  unfold outC
  have c3 := bch hb3 (one_below w3 (.cells #[.slice LA R.1.length lc, .slice RA R.2.1.length rc, .slice NA R.2.2.1.length nc, .int .i64 R.2.2.2] 31))
  have HA := Lib.hid (held_new (lc := lc) (rc := rc) (nc := nc) (a := R.1.length) (b := R.2.1.length) (c := R.2.2.1.length) (u := R.2.2.2) ho)
  have HF2 := Lib.hid (HF.out.below c3)
  have HB2 := Lib.hid (bch HB1.out c3)
  clear ho hb3 c3
  go_wp2_with fail
  refine (H12.out _ HF2.out).mono ?_
  rintro en w4 ⟨LB, RB, NB, ld, rd, nd, rfl, ho, hb4⟩
  unfold outC
  have c4 := bch hb4 (one_below w4 (.cells #[.slice LB R.1.length ld, .slice RB R.2.1.length rd, .slice NB R.2.2.1.length nd, .int .i64 R.2.2.2] 37))
  have HA := Lib.hid (HA.out.below c4)
  have hk4 := heap_alloc_new w4 (.cells #[.slice LB R.1.length ld, .slice RB R.2.1.length rd, .slice NB R.2.2.1.length nd, .int .i64 R.2.2.2] 37)
  have HRB := Lib.hid (ho.below (one_below w4 (.cells #[.slice LB R.1.length ld, .slice RB R.2.1.length rd, .slice NB R.2.2.1.length nd, .int .i64 R.2.2.2] 37)))
  have HB3 := Lib.hid (bch HB2.out c4)
  have HK4 := Lib.hid hk4
  clear ho hb4 c4 hk4
  go_wp2_with fail
  generalize w4.alloc (.cells #[.slice LB R.1.length ld, .slice RB R.2.1.length rd, .slice NB R.2.2.1.length nd, .int .i64 R.2.2.2] 37) = W at HA HRB HB3 HK4 ⊢
  have HA0 := Lib.hid (HA.out.below (below_drew W))
  have HRB0 := Lib.hid (HRB.out.below (below_drew W))
  have a0 := HA0.out.c0
  have a1 := HA0.out.c1
  have a2 := HA0.out.c2
  have a3 := HA0.out.c3
  have b0 : W.drew.cell? ⟨w4.heap.size, 0, none⟩ = some (.slice LB R.1.length ld) := cell_of HK4.out 0
  have b1 : W.drew.cell? ⟨w4.heap.size, 1, none⟩ = some (.slice RB R.2.1.length rd) := cell_of HK4.out 1
  have b2 : W.drew.cell? ⟨w4.heap.size, 2, none⟩ = some (.slice NB R.2.2.1.length nd) := cell_of HK4.out 2
  have b3 : W.drew.cell? ⟨w4.heap.size, 3, none⟩ = some (.int .i64 R.2.2.2) := cell_of HK4.out 3
  have HW0 := Lib.hid (bch HB3.out (below_drew W))
  have KEEP := Lib.hid (fun (v : World) (h : Below W.drew.heap.size W.drew v) => (⟨cell_below h a0, cell_below h a1, cell_below h a2, cell_below h a3, cell_below h b0, cell_below h b1, cell_below h b2, cell_below h b3⟩ :
    v.cell? ⟨w3.heap.size, 0, none⟩ = some (.slice LA R.1.length lc) ∧ v.cell? ⟨w3.heap.size, 1, none⟩ = some (.slice RA R.2.1.length rc) ∧ v.cell? ⟨w3.heap.size, 2, none⟩ = some (.slice NA R.2.2.1.length nc) ∧ v.cell? ⟨w3.heap.size, 3, none⟩ = some (.int .i64 R.2.2.2) ∧ v.cell? ⟨w4.heap.size, 0, none⟩ = some (.slice LB R.1.length ld) ∧ v.cell? ⟨w4.heap.size, 1, none⟩ = some (.slice RB R.2.1.length rd) ∧ v.cell? ⟨w4.heap.size, 2, none⟩ = some (.slice NB R.2.2.1.length nd) ∧ v.cell? ⟨w4.heap.size, 3, none⟩ = some (.int .i64 R.2.2.2)))
  go_region_held3 (fun v => v.cell? ⟨w3.heap.size, 0, none⟩ = some (.slice LA R.1.length lc) ∧ v.cell? ⟨w3.heap.size, 1, none⟩ = some (.slice RA R.2.1.length rc) ∧ v.cell? ⟨w3.heap.size, 2, none⟩ = some (.slice NA R.2.2.1.length nc) ∧ v.cell? ⟨w3.heap.size, 3, none⟩ = some (.int .i64 R.2.2.2) ∧ v.cell? ⟨w4.heap.size, 0, none⟩ = some (.slice LB R.1.length ld) ∧ v.cell? ⟨w4.heap.size, 1, none⟩ = some (.slice RB R.2.1.length rd) ∧ v.cell? ⟨w4.heap.size, 2, none⟩ = some (.slice NB R.2.2.1.length nd) ∧ v.cell? ⟨w4.heap.size, 3, none⟩ = some (.int .i64 R.2.2.2))
    (first
      | exact KEEP.out _ HV3.out
      | exact KEEP.out _ HV2.out
      | exact KEEP.out _ HV1.out
      | exact KEEP.out _ (.refl _ _)
      | go_keep)
    (first
      | (go_at_call 15; refine (fixed_any v2).mono ?_; rintro e v3 ⟨rfl, hv3⟩; have HV3 := Lib.hid (bch HV2.out hv3); clear hv3)
      | (go_at_call 13; refine (CS.out B1 RA NA LB RB NB d1 rc nc ld rd nd v1 HR1.out (HRB0.out.below HV1.out)).mono ?_; rintro e v2 ⟨rfl, hv2⟩; have HV2 := Lib.hid (bch HV1.out hv2); clear hv2)
      | (go_at_call 14; refine (CR.out LA RA NA lc rc nc W.drew HA0.out.rd).mono ?_; rintro e v1 ⟨B1, d1, rfl, ho1, hv1⟩; have HV1 := Lib.hid hv1; have HR1 := Lib.hid (show RdO v1 B1 RA NA R from ⟨ho1.rd, (HA0.out.rd.below hv1).reads, (HA0.out.rd.below hv1).notes⟩); clear hv1 ho1))
  go_wp2
  go_ret
  exact ⟨rfl, bch HW0.out HV3.out⟩
end Go.Proofs.YtmnbepapgghdaaaGreat

namespace Go.Proofs.YtmnbepapgghdaaaGreat
open Go.RowKit Go.Deep Go.ChangeShapes Go.WideShapes Go.Joins

theorem bytes_list (s : ByteArray) : Value.string s = .string ⟨s.data.toList.toArray⟩ := by
  obtain ⟨⟨l⟩⟩ := s; rfl
theorem addr_lit {w : World} {a : Addr} {v : Value} (h : w.cell? a = some v) : ∃ b o, a = ⟨b, o, none⟩ := by
  have := World.cell?_spot h
  obtain ⟨b, o, s⟩ := a
  simp at this
  subst this
  exact ⟨b, o, rfl⟩
theorem add_plain (b o j : Nat) : (⟨b, o, none⟩ : Addr).add j = ⟨b, o + j, none⟩ := by unfold Addr.add; split <;> simp_all
theorem add_add (a : Addr) (i j : Nat) : (a.add i).add j = a.add (i + j) := by
  unfold Addr.add
  by_cases hi : i = 0 <;> by_cases hj : j = 0 <;> simp [hi, hj, Nat.add_assoc]
theorem view_gen {H α : Type} [Inhabited α] {enc : TypeId × Value → H} {W : World} {d : DataW H} {p : List MemPlace} {A : Option Addr} {len cap : Nat} {T e k : Nat} (g : α → List Value) (Q : α → Prop) (hT : Tryz.prog.underlying T = some (.slice e)) (hk : Tryz.prog.cellsOf e = k) (hk0 : 0 < k)
    (hg : ∀ x, (g x).length = k) (hr : ∀ n cs y, DataW.trod enc Tryz.prog W 0 (fun _ => true) true n e cs = some y → cs.length = k → ∃ x, cs = g x ∧ Q x)
    (h : DataW.Trod enc Tryz.prog W 0 (fun _ => true) true T (.slice A len cap) d p) :
    ∃ xs : List α, len = xs.length ∧ (0 < xs.length → ∃ b o, A = some ⟨b, o, none⟩ ∧ ∀ i x, xs[i]? = some x → ∀ j v, (g x)[j]? = some v → W.cell? ⟨b, o + i * k + j, none⟩ = some v) ∧ (∀ x ∈ xs, Q x) ∧ xs.length ≤ 9223372036854775807 := by
  obtain ⟨fuel, hf⟩ := h
  rcases open_slice hT hf with ⟨hcs, _⟩ | ⟨a, l, c, m, n, D, Pl, hcs, _, hl, hm, hmm, _, hall⟩
  · simp [Value.cells] at hcs
    obtain ⟨rfl, rfl, rfl⟩ := hcs
    exact ⟨[], rfl, fun h => absurd h (by simp), (fun f hf => by cases hf), by simp⟩
  · simp [Value.cells] at hcs
    obtain ⟨rfl, rfl, rfl⟩ := hcs
    simp only [if_true] at hmm
    unfold maxLen at hm
    rw [hk] at hall
    have each : ∀ i, i < len → ∃ x : α, (∀ j v, (g x)[j]? = some v → W.cell? (a.add (i * k + j)) = some v) ∧ Q x := fun i hi => by
      obtain ⟨cs', h1, h2⟩ := hall i (by omega)
      obtain ⟨_, h3, h4⟩ := World.cells?_some h1
      obtain ⟨x, rfl, hq⟩ := hr _ _ _ h2 h3
      refine ⟨x, fun j v hj => ?_, hq⟩
      have hjl : j < k := by rw [← hg x]; exact (List.getElem?_eq_some_iff.1 hj).1
      have := h4 j hjl
      rw [hj] at this
      rw [← this, add_add]
    obtain ⟨F, hF⟩ := choose_lt each
    refine ⟨(List.range len).map F, by simp, fun h0 => ?_, fun x hx => ?_, by simp; omega⟩
    · have h0' : 0 < len := by simpa using h0
      obtain ⟨v0, hv0⟩ : ∃ v, (g (F 0))[0]? = some v := ⟨_, List.getElem?_eq_getElem (by rw [hg]; exact hk0)⟩
      obtain ⟨b, o, rfl⟩ := addr_lit (by have := (hF 0 h0').1 0 v0 hv0; simpa [Addr.add] using this)
      refine ⟨b, o, rfl, fun i x hi j v hj => ?_⟩
      have hlt : i < len := by
        rcases Nat.lt_or_ge i len with q | q
        · exact q
        · rw [List.getElem?_eq_none (by simpa using q)] at hi; cases hi
      have e : F i = x := by
        rw [List.getElem?_map, List.getElem?_range hlt] at hi
        simpa using hi
      have := (hF i hlt).1
      rw [e] at this
      have := this j v hj
      rwa [add_plain, ← Nat.add_assoc] at this
    · obtain ⟨i, hi, rfl⟩ := List.mem_map.1 hx
      exact (hF i (by simpa using hi)).2
/-- A slice that reads as bytes. -/
def RdY (w : World) (A : Option Addr) (xs : List UInt8) : Prop :=
  0 < xs.length → ∃ b o, A = some ⟨b, o, none⟩ ∧ ∀ i x, xs[i]? = some x → w.cell? ⟨b, o + i, none⟩ = some (.int .u8 x.toNat)
theorem RdY.below {w w' : World} {A : Option Addr} {xs : List UInt8} (h : RdY w A xs) (hb : Below w.heap.size w w') : RdY w' A xs := fun h0 => by
  obtain ⟨b, o, e, hc⟩ := h h0
  exact ⟨b, o, e, fun i f hi => cell_below hb (hc i f hi)⟩
theorem Tryz.cells89 : Tryz.prog.cellsOf 89 = 2 := by kernel_rfl
theorem Tryz.cells9 : Tryz.prog.cellsOf 9 = 1 := by kernel_rfl
theorem Tryz.cells3 : Tryz.prog.cellsOf 3 = 1 := by kernel_rfl
theorem view_toks {H : Type} {enc : TypeId × Value → H} {W : World} {d : DataW H} {p : List MemPlace} {A : Option Addr} {len cap : Nat}
    (h : DataW.Trod enc Tryz.prog W 0 (fun _ => true) true 27 (.slice A len cap) d p) :
    ∃ fs : List Tok, len = fs.length ∧ Rd W A fs ∧ (∀ f ∈ fs, f.2.length ≤ 9223372036854775807) ∧ fs.length ≤ 9223372036854775807 := by
  obtain ⟨fuel, hf⟩ := h
  rcases open_slice_pairs Tryz.underlying27 Tryz.underlying89 Tryz.cells89 rfl rfl Tryz.cells3 Tryz.cells9 hf with ⟨hcs, _⟩ | ⟨a, l, c, m, n, V0, V1, D0, D1, P0, P1, hcs, _, hl, hm, hmm, _, hall⟩
  · simp [Value.cells] at hcs
    obtain ⟨rfl, rfl, rfl⟩ := hcs
    exact ⟨[], rfl, fun h => absurd h (by simp), (fun f hf => by cases hf), by simp⟩
  · simp [Value.cells] at hcs
    obtain ⟨rfl, rfl, rfl⟩ := hcs
    simp only [if_true] at hmm
    unfold maxLen at hm
    have each : ∀ i, i < len → ∃ f : Tok, W.cell? (a.add (i * 2)) = some (.int .i64 f.1) ∧ W.cell? (a.add (i * 2 + 1)) = some (.string ⟨f.2.toArray⟩) ∧ f.2.length ≤ 9223372036854775807 := fun i hi => by
      obtain ⟨c0, c1, t0, t1⟩ := hall i (by omega)
      obtain ⟨s0, e0, _, _⟩ := DataW.trod_int Tryz.underlying3 t0
      obtain ⟨s1, e1, _, z1⟩ := DataW.trod_string Tryz.underlying9 t1
      simp only [List.cons.injEq, and_true] at e0 e1
      unfold maxLen at z1
      refine ⟨(s0, s1.data.toList), by rw [c0, e0], by rw [c1, e1, bytes_list], ?_⟩
      · show s1.data.toList.length ≤ _
        have := size_list s1
        omega
    obtain ⟨F, hF⟩ := choose_lt (α := Tok) each
    refine ⟨(List.range len).map F, by simp, fun h0 => ?_, fun f hf => ?_, by simp; omega⟩
    · have h0' : 0 < len := by simpa using h0
      obtain ⟨b, o, rfl⟩ := addr_lit (by have := (hF 0 h0').1; simpa [Addr.add] using this)
      refine ⟨b, o, rfl, fun i f hi => ?_⟩
      have hlt : i < len := by
        rcases Nat.lt_or_ge i len with q | q
        · exact q
        · rw [List.getElem?_eq_none (by simpa using q)] at hi; cases hi
      have e : F i = f := by
        rw [List.getElem?_map, List.getElem?_range hlt] at hi
        simpa using hi
      have := hF i hlt
      rw [e, add_plain, add_plain] at this
      exact ⟨this.1, by rw [Nat.add_assoc]; exact this.2.1⟩
    · obtain ⟨i, hi, rfl⟩ := List.mem_map.1 hf
      exact (hF i (by simpa using hi)).2.2

theorem byte_int (k : Nat) (h : k < 256) : ((UInt8.ofNat k).toNat : Int) = (k : Int) := by
  rw [UInt8.toNat_ofNat', Nat.mod_eq_of_lt h]
theorem byte_of {n : Int} (h : (Lit.int .u8 n).wf = true) : ∃ c : UInt8, n = (c.toNat : Int) := by
  have e1 : IntKind.u8.min = 0 := by rfl
  have e2 : IntKind.u8.max = 255 := by rfl
  simp [Lit.wf, e1, e2] at h
  exact ⟨UInt8.ofNat n.toNat, by rw [byte_int _ (by omega)]; omega⟩
theorem view_bytes {H : Type} {enc : TypeId × Value → H} {W : World} {d : DataW H} {p : List MemPlace} {A : Option Addr} {len cap : Nat} (h : DataW.Trod enc Tryz.prog W 0 (fun _ => true) true 57 (.slice A len cap) d p) :
    ∃ xs : List UInt8, len = xs.length ∧ RdY W A xs ∧ xs.length ≤ 9223372036854775807 := by
  obtain ⟨xs, h1, h2, _, h4⟩ := view_gen (k := 1) (fun x : UInt8 => [.int .u8 x.toNat]) (fun _ => True) Tryz.underlying57 (by kernel_rfl) (by omega) (fun _ => rfl) (fun n cs y hy _ => by
    obtain ⟨s, rfl, _, hw⟩ := DataW.trod_int Tryz.underlying5 hy
    obtain ⟨c, rfl⟩ := byte_of hw
    exact ⟨c, rfl, trivial⟩) h
  refine ⟨xs, h1, fun h0 => ?_, h4⟩
  obtain ⟨b, o, e, hc⟩ := h2 h0
  exact ⟨b, o, e, fun i x hx => by simpa using hc i x hx 0 _ rfl⟩
end Go.Proofs.YtmnbepapgghdaaaGreat

namespace Go.Proofs.YtmnbepapgghdaaaGreat
open Go.RowKit Go.Deep Go.ChangeShapes Go.WideShapes Go.Joins

theorem cel45 : Tryz.prog.cellsOf 45 = 2 := by kernel_rfl

namespace Fl
theorem view_files {H : Type} {enc : TypeId × Value → H} {W : World} {d : DataW H} {p : List MemPlace} {A : Option Addr} {len cap : Nat}
    (h : DataW.Trod enc Tryz.prog W 0 (fun _ => true) true 22 (.slice A len cap) d p) :
    ∃ fs : List Fl, len = fs.length ∧ Rd W A fs ∧ (∀ f ∈ fs, f.1.length ≤ 9223372036854775807 ∧ f.2.length ≤ 9223372036854775807) ∧ fs.length ≤ 9223372036854775807 := by
  obtain ⟨fuel, hf⟩ := h
  rcases open_slice_pairs Tryz.underlying22 Tryz.underlying45 cel45 rfl rfl Tryz.cells9 Tryz.cells9 hf with ⟨hcs, _⟩ | ⟨a, l, c, m, n, V0, V1, D0, D1, P0, P1, hcs, _, hl, hm, hmm, _, hall⟩
  · simp [Value.cells] at hcs
    obtain ⟨rfl, rfl, rfl⟩ := hcs
    exact ⟨[], rfl, fun h => absurd h (by simp), (fun f hf => by cases hf), by simp⟩
  · simp [Value.cells] at hcs
    obtain ⟨rfl, rfl, rfl⟩ := hcs
    simp only [if_true] at hmm
    unfold maxLen at hm
    have each : ∀ i, i < len → ∃ f : Fl, W.cell? (a.add (i * 2)) = some (.string ⟨f.1.toArray⟩) ∧ W.cell? (a.add (i * 2 + 1)) = some (.string ⟨f.2.toArray⟩) ∧ f.1.length ≤ 9223372036854775807 ∧ f.2.length ≤ 9223372036854775807 := fun i hi => by
      obtain ⟨c0, c1, t0, t1⟩ := hall i (by omega)
      obtain ⟨s0, e0, _, z0⟩ := DataW.trod_string Tryz.underlying9 t0
      obtain ⟨s1, e1, _, z1⟩ := DataW.trod_string Tryz.underlying9 t1
      simp only [List.cons.injEq, and_true] at e0 e1
      unfold maxLen at z0 z1
      refine ⟨(s0.data.toList, s1.data.toList), by rw [c0, e0, bytes_list], by rw [c1, e1, bytes_list], ?_, ?_⟩
      · show s0.data.toList.length ≤ _
        have := size_list s0
        omega
      · show s1.data.toList.length ≤ _
        have := size_list s1
        omega
    obtain ⟨F, hF⟩ := choose_lt (α := Fl) each
    refine ⟨(List.range len).map F, by simp, fun h0 => ?_, fun f hf => ?_, by simp; omega⟩
    · have h0' : 0 < len := by simpa using h0
      obtain ⟨b, o, rfl⟩ := addr_lit (by have := (hF 0 h0').1; simpa [Addr.add] using this)
      refine ⟨b, o, rfl, fun i f hi => ?_⟩
      have hlt : i < len := by
        rcases Nat.lt_or_ge i len with q | q
        · exact q
        · rw [List.getElem?_eq_none (by simpa using q)] at hi; cases hi
      have e : F i = f := by
        rw [List.getElem?_map, List.getElem?_range hlt] at hi
        simpa using hi
      have := hF i hlt
      rw [e, add_plain, add_plain] at this
      exact ⟨this.1, by rw [Nat.add_assoc]; exact this.2.1⟩
    · obtain ⟨i, hi, rfl⟩ := List.mem_map.1 hf
      exact (hF i (by simpa using hi)).2.2
set_option maxRecDepth 100000 in
theorem view_file {H : Type} {enc : TypeId × Value → H} {W : World} {r : Reach} {b0 : Nat} {v : Value} {d : DataW H} {p : List MemPlace} (hv : Value.okWide Tryz.prog W r b0 45 v)
    (h : DataW.Trod enc Tryz.prog W 0 (fun _ => true) true 45 v d p) : ∃ f : Fl, v = .agg #[.string ⟨f.1.toArray⟩, .string ⟨f.2.toArray⟩] ∧ f.1.length ≤ 9223372036854775807 ∧ f.2.length ≤ 9223372036854775807 := by
  obtain ⟨c0, c1, y0, y1, m, rfl, _, _, t0, t1⟩ := open_agg2 Tryz.underlying45 (by kernel_rfl) cel45 hv h
  obtain ⟨s0, e0, _, z0⟩ := DataW.trod_string Tryz.underlying9 t0
  obtain ⟨s1, e1, _, z1⟩ := DataW.trod_string Tryz.underlying9 t1
  simp only [List.cons.injEq, and_true] at e0 e1
  subst e0 e1
  unfold maxLen at z0 z1
  refine ⟨(s0.data.toList, s1.data.toList), by rw [bytes_list s0, bytes_list s1], ?_, ?_⟩
  · show s0.data.toList.length ≤ _
    have := size_list s0
    omega
  · show s1.data.toList.length ≤ _
    have := size_list s1
    omega
end Fl
theorem u8_bounds {n : Int} (h : (Lit.int .u8 n).wf = true) : ∃ x : Nat, n = (x : Int) ∧ x ≤ 255 := by
  simp [Lit.wf, IntKind.min, IntKind.max, IntKind.signed, IntKind.bits] at h
  exact ⟨n.toNat, by omega, by omega⟩
theorem und49 : Tryz.prog.underlying 49 = some (.array 2 5) := by kernel_rfl
theorem und5 : Tryz.prog.underlying 5 = some (.int .u8) := by kernel_rfl
theorem cel49 : Tryz.prog.cellsOf 49 = 2 := by kernel_rfl
theorem cel5 : Tryz.prog.cellsOf 5 = 1 := by kernel_rfl
theorem two_of {cs : Array Value} (h : cs.size = 2) : ∃ a b, cs = #[a, b] := by
  obtain ⟨l⟩ := cs
  match l, h with
  | [a, b], _ => exact ⟨a, b, rfl⟩
set_option maxRecDepth 100000 in
theorem view_u8x2 {H : Type} {enc : TypeId × Value → H} {W : World} {r : Reach} {b0 : Nat} {v : Value} {d : DataW H} {p : List MemPlace} (hv : Value.okWide Tryz.prog W r b0 49 v)
    (h : DataW.Trod enc Tryz.prog W 0 (fun _ => true) true 49 v d p) : ∃ x y : Nat, v = .agg #[.int .u8 x, .int .u8 y] ∧ x ≤ 255 ∧ y ≤ 255 := by
  simp only [Value.okWide, und49] at hv
  obtain ⟨cs, rfl, hsz, _⟩ := hv
  obtain ⟨c0, c1, rfl⟩ := two_of (hsz.trans cel49)
  obtain ⟨fuel, hf⟩ := h
  obtain ⟨xs, m, _, _, _, hl, hall⟩ := DataW.trod_array und49 hf
  have h0 := hall 0 (by omega)
  have h1 := hall 1 (by omega)
  rw [cel5] at h0 h1
  obtain ⟨y0, hy0⟩ : ∃ y, xs[0]? = some y := ⟨_, List.getElem?_eq_getElem (by omega)⟩
  obtain ⟨y1, hy1⟩ : ∃ y, xs[1]? = some y := ⟨_, List.getElem?_eq_getElem (by omega)⟩
  rw [hy0] at h0
  rw [hy1] at h1
  obtain ⟨s0, e0, _, z0⟩ := DataW.trod_int und5 h0
  obtain ⟨s1, e1, _, z1⟩ := DataW.trod_int und5 h1
  have n0 : c0 = .int .u8 s0 := List.head_eq_of_cons_eq (show [c0] = [.int .u8 s0] from e0)
  have n1 : c1 = .int .u8 s1 := List.head_eq_of_cons_eq (show [c1] = [.int .u8 s1] from e1)
  rw [n0, n1]
  obtain ⟨x, rfl, hx⟩ := u8_bounds z0
  obtain ⟨y, rfl, hy⟩ := u8_bounds z1
  exact ⟨x, y, rfl, hx, hy⟩
end Go.Proofs.YtmnbepapgghdaaaGreat

namespace Go.Proofs.YtmnbepapgghdaaaGreat
open Go.RowKit Go.Deep Go.ChangeShapes Go.WideShapes Go.Joins

theorem undI2 : Tryz.prog.underlying 23 = some (.array 2 3) := by kernel_rfl
theorem celI2 : Tryz.prog.cellsOf 23 = 2 := by kernel_rfl
theorem cel3 : Tryz.prog.cellsOf 3 = 1 := by kernel_rfl
set_option maxRecDepth 100000 in
theorem view_i2 {H : Type} {enc : TypeId × Value → H} {W : World} {r : Reach} {b0 : Nat} {v : Value} {d : DataW H} {p : List MemPlace} (hv : Value.okWide Tryz.prog W r b0 23 v)
    (h : DataW.Trod enc Tryz.prog W 0 (fun _ => true) true 23 v d p) : ∃ x y : Int, v = .agg #[.int .i64 x, .int .i64 y] := by
  simp only [Value.okWide, undI2] at hv
  obtain ⟨cs, rfl, hsz, _⟩ := hv
  obtain ⟨c0, c1, rfl⟩ := two_of (hsz.trans celI2)
  obtain ⟨fuel, hf⟩ := h
  obtain ⟨xs, m, _, _, _, hl, hall⟩ := DataW.trod_array undI2 hf
  have h0 := hall 0 (by omega)
  have h1 := hall 1 (by omega)
  rw [cel3] at h0 h1
  obtain ⟨y0, hy0⟩ : ∃ y, xs[0]? = some y := ⟨_, List.getElem?_eq_getElem (by omega)⟩
  obtain ⟨y1, hy1⟩ : ∃ y, xs[1]? = some y := ⟨_, List.getElem?_eq_getElem (by omega)⟩
  rw [hy0] at h0
  rw [hy1] at h1
  obtain ⟨s0, e0, _, _⟩ := DataW.trod_int Tryz.underlying3 h0
  obtain ⟨s1, e1, _, _⟩ := DataW.trod_int Tryz.underlying3 h1
  have n0 : c0 = .int .i64 s0 := List.head_eq_of_cons_eq (show [c0] = [.int .i64 s0] from e0)
  have n1 : c1 = .int .i64 s1 := List.head_eq_of_cons_eq (show [c1] = [.int .i64 s1] from e1)
  rw [n0, n1]
  exact ⟨s0, s1, rfl⟩
end Go.Proofs.YtmnbepapgghdaaaGreat
