/-
  Package expand: Expand.
-/
import Derived.Test.YtmnbepapgghdaaaGreatK29
import Derived.WalkMore
namespace Go.Proofs.YtmnbepapgghdaaaGreat
open Go.RowKit

theorem xnote_none (p : Addr) (nm : By) (w : World) : Calls Tryz.prog 26 #[.pointer (some p), .string ⟨nm.toArray⟩, .nilIface] w fun en w' => en = .returned (.tuple #[]) ∧ w = w' := by
  go_enter Tryz.func26, Tryz.ntmps26
  go_wp2
  go_end0
  exact ⟨rfl, rfl⟩
set_option maxRecDepth 100000 in
set_option maxHeartbeats 4000000 in
/-- A note: how far the tokens are taken away stays. -/
theorem xnote_at (k : Xk) (e : Ex) (n a : Nat) (j : Int) (nm : By) (w : World) (h : XWa k w e n a) (ho : errO (some j)) (hn : e.notes.length ≤ 100000) :
    Calls Tryz.prog 26 #[.pointer (some ⟨k.p, 0, none⟩), .string ⟨nm.toArray⟩, errV (some j)] w fun en w' => en = .returned (.tuple #[]) ∧ Below k.base w w' ∧ XWa k w' (noted e nm (some j)) n a := by
  have C := Lib.hid (fun w => number_any j (ho j rfl) w)
  obtain ⟨s, hr, hsn, hat⟩ := h
  have c10 : w.cell? ⟨k.p, 10, none⟩ = some (.slice s.NA e.notes.length s.nc) := hr.cell 10
  have HR := Lib.hid (hr.below (below_drew w))
  have HB0 := Lib.hid ((below_drew w).mono (show k.base ≤ w.heap.size by have := lt_of_blk hr.blk; have := hr.hp; omega))
  have C10 := Lib.hid c10
  obtain ⟨r, hr0⟩ : ∃ r, e.notes ++ [(j, nm)] = r := ⟨_, rfl⟩
  have HY := Lib.hid hr0
  have HN := Lib.hid (And.intro hsn hat)
  unfold errV at C ⊢
  clear hr hr0 ho hsn hat
  go_enter Tryz.func26, Tryz.ntmps26
  go_wp2_with fail
  have c10 : w.drew.cell? ⟨k.p, 10, none⟩ = some (.slice s.NA e.notes.length s.nc) := C10.out
  go_region_law (first
    | (refine step_call w.drew (by rfl) 50 _ _ (by rfl) #[.iface 104 (.agg #[.int .i64 j])] (by rfl) (enter50 _ _) (R := fun v w' => v = .int .i64 j ∧ Below w.drew.heap.size w.drew w') ((C.out w.drew).mono fun _ _ q => ⟨_, q.1, rfl, q.2⟩) ?_
       rintro v w1 ⟨rfl, hb1⟩
       have HA := note_ahead (t := (j, nm)) HR.out hb1
       have c11 : w1.cell? ⟨k.p, 10, none⟩ = some (.slice s.NA e.notes.length s.nc) := cell_below hb1 C10.out
       have c12 : (w1.alloc (.cells #[.int .i64 j, .string ⟨nm.toArray⟩] 86)).cell? ⟨k.p, 10, none⟩ = some (.slice s.NA e.notes.length s.nc) := HA.1.out.cell 10)
    | (refine step_append_n (w1.alloc (.cells #[.int .i64 j, .string ⟨nm.toArray⟩] 86)) (by rfl) _ _ (by rfl) k.base s.NA s.nc e.notes (by rfl) HA.1.out.notes (some ⟨w1.heap.size, 0, none⟩) 1 1 [(j, nm)] (by rfl) (by rfl) (one_new w1 (j, nm) 86) (by show _ + 1 ≤ _; omega) HA.2.2.out r HY.out ?_
       intro A' c' w2 ho2 hg2 hn2
       obtain ⟨d10, f10, HW, HB2⟩ := note_behind HA.1.out (HB0.out.trans HA.2.1.out) ho2 hg2 hn2))
  all_goals
    go_end0
    have e0 : noted e nm (some j) = { e with notes := r } := by rw [← HY.out]; rfl
    exact ⟨rfl, HB2.out, { s with NA := A', nc := c' }, by rw [e0]; exact HW.out, HN.out.1, HN.out.2⟩
/-- An expansion that begins. -/
def ex0 (fuel : Nat) : Ex := { inp := [], ms := [], fuel := fuel, out := [], reads := [], notes := [], used := 0 }
/-- The expansion of a file. -/
def expE (ok : By → Bool) (F : By → Option By) (fuel most : Nat) (main : By) : Ex := match F main with
  | none => ((ex0 fuel).ask main).note 4 main
  | some t => runE ok F most { (ex0 fuel).ask main with inp := toks t }
/-- The measure, as memory tells it. -/
def muW (B p : Nat) (w : World) : Nat := match w.heap[p]? with
  | some (.cells cs _ _) => match cs[1]?, cs[11]?, cs[6]?, cs[7]? with
    | some (Value.int _ f), some (Value.int _ u), some (Value.slice _ n _), some (Value.int _ a) => (f - u).toNat * (B + 1) + (n - a.toNat)
    | _, _, _, _ => 0
  | _ => 0
theorem muW_eq {k : Xk} {w : World} {e : Ex} {n : Nat} (B : Nat) (h : XW k w e n) : muW B k.p w = mu B e := by
  obtain ⟨s, hr, _⟩ := h
  unfold muW mu
  rw [hr.blk]
  show ((k.fuel : Int) - (e.used : Int)).toNat * (B + 1) + (s.full.length - (s.at_ : Int).toNat) = _
  have h1 := hr.fuel
  have h2 : e.inp.length = s.full.length - s.at_ := by rw [← hr.inp, List.length_drop]
  have h3 : ((k.fuel : Int) - (e.used : Int)).toNat = e.fuel := by omega
  have h4 : (s.at_ : Int).toNat = s.at_ := by omega
  rw [h3, h4, h2]
abbrev Res8 := List Tok × List By × List (Int × By) × Nat
/-- Rows of an answer, in blocks of their own. -/
structure OutO (w : World) (base : Nat) (LA RA NA : Option Addr) (lc rc nc : Nat) (r : Res8) : Prop where
  l : Own 89 w base LA lc r.1
  reads : OwnT w base RA rc r.2.1
  notes : Own 86 w base NA nc r.2.2.1
theorem row_mono {w : World} {base base' t s n : Nat} {v : Value} {xs : List Value} (h : w.ownsRow base t s v n xs) (hb : base' ≤ base) : w.ownsRow base' t s v n xs := by
  obtain ⟨h1, h2⟩ := h
  rcases h2 with h2 | ⟨g, cap, cur, a1, a2, a3, a4⟩
  · exact ⟨h1, .inl h2⟩
  · exact ⟨h1, .inr ⟨g, cap, cur, a1, Nat.le_trans hb a2, a3, a4⟩⟩
theorem OutO.mono {w : World} {b b' : Nat} {LA RA NA : Option Addr} {lc rc nc : Nat} {r : Res8} (h : OutO w b LA RA NA lc rc nc r) (hb : b' ≤ b) : OutO w b' LA RA NA lc rc nc r := ⟨h.l.mono hb, row_mono h.reads hb, h.notes.mono hb⟩
theorem OutO.below {w w' : World} {b : Nat} {LA RA NA : Option Addr} {lc rc nc : Nat} {r : Res8} (h : OutO w b LA RA NA lc rc nc r) (hb : Below w.heap.size w w') : OutO w' b LA RA NA lc rc nc r :=
  ⟨own_but h.l (but_below hb) (fun g _ q => by cases q), own_but h.reads (but_below hb) (fun g _ q => by cases q), own_but h.notes (but_below hb) (fun g _ q => by cases q)⟩
theorem OutO.set {w : World} {b p j : Nat} {v : Value} {LA RA NA : Option Addr} {lc rc nc : Nat} {r : Res8} (h : OutO w b LA RA NA lc rc nc r) (hp : p < b) : OutO (w.setCell ⟨p, j, none⟩ v) b LA RA NA lc rc nc r := by
  have nA : ∀ {A : Option Addr} {tt : TypeId} {sz n c : Nat} {xs : List Value}, w.ownsRow b tt sz (.slice A n c) n xs → obA A ≠ some p := fun h q => by
    have := (World.ownsRow.lt h _ (by rw [obA_own]; exact q)).1
    omega
  exact ⟨own_set h.l (nA h.l), own_set h.reads (nA h.reads), own_set h.notes (nA h.notes)⟩
/-- An answer's value; its cells. -/
def outC (LA RA NA : Option Addr) (lc rc nc : Nat) (r : Res8) : Array Value := #[.slice LA r.1.length lc, .slice RA r.2.1.length rc, .slice NA r.2.2.1.length nc, .int .i64 r.2.2.2]
/-- What is answered. -/
def ExpPost (w : World) (r : Res8) (en : Ending) (w' : World) : Prop :=
  ∃ (LA RA NA : Option Addr) (lc rc nc : Nat), en = .returned (.tuple #[.agg (outC LA RA NA lc rc nc r), .int .i64 0]) ∧ OutO w' w.heap.size LA RA NA lc rc nc r ∧ Below w.heap.size w w'
/-- Files that are handed in. -/
structure Fs (w : World) (A : Option Addr) (fs : List Fl.Fl) : Prop where
  rd : Fl.Rd w A fs
  len : fs.length ≤ 1000
  srt : Fl.Sorted fs
  txt : ∀ f ∈ fs, f.2.length ≤ 1000
/-- An expansion's own cells, at its beginning. -/
theorem xr_new {w : World} {A : Option Addr} {fn fc fuel most cb mb p base : Nat} (hb : w.heap[p]? = some (.cells #[.slice A fn fc, .int .i64 fuel, .int .i64 most, .map (some cb), .slice none 0 0, .map (some mb), .slice none 0 0, .int .i64 0, .slice none 0 0, .slice none 0 0, .slice none 0 0, .int .i64 0] 68))
    (h1 : base ≤ p) (h2 : base ≤ mb) (hm : BM w mb 0 (fun _ => none)) (hc : BM w cb 4 cmdF) (hne : cb ≠ mb) :
    XR ⟨base, p, A, fn, fc, fuel, most, cb, mb⟩ w ⟨none, 0, none, 0, [], 0, none, 0, none, 0, none, 0, 0, fun _ => none⟩ (ex0 fuel) :=
  ⟨h1, h2, hb, by show fuel = fuel + 0; omega, Nat.le_refl _, Nat.zero_le _, rfl, own_nil _ _ _, own_nil _ _ _, fun g hg => (by cases hg), ⟨rfl, .inl ⟨rfl, rfl⟩⟩, own_nil _ _ _, hm, hc, hne, fun h0 => absurd h0 (by simp [bares, ex0]), ⟨Nat.le_refl _, by show 0 ≤ _; omega⟩, fun h0 => absurd h0 (by simp [ex0]), fun n v hv => (by cases hv)⟩
theorem ask_fine {fuel most : Nat} {main t : By} (hf : fuel ≤ 50) (hm : most ≤ 900) (ht : t.length ≤ 1000) : Fine most 1000 60000 { (ex0 fuel).ask main with inp := toks t } := by
  have hl : (toks t).length ≤ 1000 := Nat.le_trans (toks_len t) ht
  refine ⟨⟨toks_pt (by omega), fun m hm => by cases hm⟩, Good.nil, hl, fun m hm => (by cases hm), ?_, Nat.zero_le _, ?_⟩
  · show (if main ∈ ([] : List By) then ([] : List By) else [] ++ [main]).length ≤ 32
    simp
  · show 0 + mu 1000 _ ≤ 60000
    unfold mu
    show 0 + (fuel * (1000 + 1) + (toks t).length) ≤ 60000
    have : fuel * (1000 + 1) ≤ 50 * 1001 := Nat.mul_le_mul hf (Nat.le_refl _)
    omega
theorem zero31 (w : World) : (zeroValue 31).run Tryz.prog w = .ok (.agg #[.slice none 0 0, .slice none 0 0, .slice none 0 0, .int .i64 0]) w := by kernel_rfl
theorem blk31 (w : World) : (w.alloc (.cells #[.slice none 0 0, .slice none 0 0, .slice none 0 0, .int .i64 0] 31)).heap[w.heap.size]? = some (.cells #[.slice none 0 0, .slice none 0 0, .slice none 0 0, .int .i64 0] 31) := heap_alloc_new w _
set_option maxRecDepth 100000 in
set_option maxHeartbeats 4000000 in
theorem expand_bad (A : Option Addr) (fn fc : Nat) (main : By) (fuel most : Int) (w : World) (h : fuel < 0 ∨ 1000 < fuel ∨ most < 0 ∨ 20000 < most) :
    Calls Tryz.prog 11 #[.slice A fn fc, .string ⟨main.toArray⟩, .int .i64 fuel, .int .i64 most] w fun en w' => en = .returned (.tuple #[.agg #[.slice none 0 0, .slice none 0 0, .slice none 0 0, .int .i64 0], .int .i64 1]) ∧ Below w.heap.size w w' := by
  have HK := blk31 w
  have HB := Lib.hid (one_below w (.cells #[.slice none 0 0, .slice none 0 0, .slice none 0 0, .int .i64 0] 31))
  obtain ⟨W0, hW⟩ : ∃ W0, w.alloc (.cells #[.slice none 0 0, .slice none 0 0, .slice none 0 0, .int .i64 0] 31) = W0 := ⟨_, rfl⟩
  have k0 : W0.cell? ⟨w.heap.size, 0, none⟩ = some (.slice none 0 0) := by rw [← hW]; exact cell_of HK 0
  have k1 : W0.cell? ⟨w.heap.size, 1, none⟩ = some (.slice none 0 0) := by rw [← hW]; exact cell_of HK 1
  have k2 : W0.cell? ⟨w.heap.size, 2, none⟩ = some (.slice none 0 0) := by rw [← hW]; exact cell_of HK 2
  have k3 : W0.cell? ⟨w.heap.size, 3, none⟩ = some (.int .i64 0) := by rw [← hW]; exact cell_of HK 3
  rw [hW] at HB HK
  have f0 := frozen_of HK 0
  have f1 := frozen_of HK 1
  have f2 := frozen_of HK 2
  have f3 := frozen_of HK 3
  have HR := Lib.hid ((((HB.out.setCell (Nat.le_refl _) (p := ⟨w.heap.size, 0, none⟩) (.slice none 0 0)).setCell (Nat.le_refl _) (p := ⟨w.heap.size, 1, none⟩) (.slice none 0 0)).setCell (Nat.le_refl _) (p := ⟨w.heap.size, 2, none⟩) (.slice none 0 0)).setCell (Nat.le_refl _) (p := ⟨w.heap.size, 3, none⟩) (.int .i64 0))
  have BK := Lib.hid (blk_set (blk_set (blk_set (blk_set HK 0 (.slice none 0 0)) 1 (.slice none 0 0)) 2 (.slice none 0 0)) 3 (.int .i64 0))
  clear HK
  have h' : fuel < 0 ∨ (0 ≤ fuel ∧ 1000 < fuel) ∨ (0 ≤ fuel ∧ fuel ≤ 1000 ∧ most < 0) ∨ (0 ≤ fuel ∧ fuel ≤ 1000 ∧ 0 ≤ most ∧ 20000 < most) := by omega
  clear h
  rcases h' with h1 | ⟨h1, h2⟩ | ⟨h1, h2, h3⟩ | ⟨h1, h2, h3, h4⟩
  all_goals
    go_enter Tryz.func11, Tryz.ntmps11
    go_wp2_with fail
    refine bodyPost_ret (results_cell_tmp (P := Tryz.prog) rfl _ _ w.heap.size 31 #[.slice none 0 0, .slice none 0 0, .slice none 0 0, .int .i64 0] (0, 0) _ _ (by rfl) (by rfl) BK.out Tryz.underlying31 rfl (by kernel_rfl)) rfl ?_
    exact ⟨rfl, HR.out⟩
/-- Where Expand's own cells lie. -/
def kE (w w1 : World) (A : Option Addr) (fn fc fuel most : Nat) : Xk := ⟨w.heap.size + 1, w1.heap.size + 1, A, fn, fc, fuel, most, w.heap.size + 1, w1.heap.size⟩
theorem expand_new {w W0 w1 : World} {A : Option Addr} {fc fuel most : Nat} {fs : List Fl.Fl} (hF : Fs w A fs) (hb : Below w.heap.size w W0) (hz : W0.heap.size = w.heap.size + 1)
    (hk : W0.heap[w.heap.size]? = some (.cells #[.slice none 0 0, .slice none 0 0, .slice none 0 0, .int .i64 0] 31))
    (hbm : BM w1 (w.heap.size + 1) 4 cmdF) (hb1 : Below W0.heap.size W0 w1) {W2 : World} (hW : (w1.alloc (.map #[] 0)).alloc (.cells #[.slice A fs.length fc, .int .i64 fuel, .int .i64 most, .map (some (w.heap.size + 1)), .slice none 0 0, .map (some w1.heap.size), .slice none 0 0, .int .i64 0, .slice none 0 0, .slice none 0 0, .slice none 0 0, .int .i64 0] 68) = W2) :
    Hid (XR (kE w w1 A fs.length fc fuel most) W2 ⟨none, 0, none, 0, [], 0, none, 0, none, 0, none, 0, 0, fun _ => none⟩ (ex0 fuel)) ∧ Hid (Fls (kE w w1 A fs.length fc fuel most) W2 fs) ∧ Hid (Lo (kE w w1 A fs.length fc fuel most) fs) ∧
    Hid (W2.heap[w.heap.size]? = some (.cells #[.slice none 0 0, .slice none 0 0, .slice none 0 0, .int .i64 0] 31)) ∧ Hid (Below w.heap.size w W2) := by
  have hs1 := hb1.size
  have hlt := hbm.lt
  have q1 := one_below w1 (.map #[] 0)
  have s1 : (w1.alloc (.map #[] 0)).heap.size = w1.heap.size + 1 := by simp
  have q2 := one_below (w1.alloc (.map #[] 0)) (.cells #[.slice A fs.length fc, .int .i64 fuel, .int .i64 most, .map (some (w.heap.size + 1)), .slice none 0 0, .map (some w1.heap.size), .slice none 0 0, .int .i64 0, .slice none 0 0, .slice none 0 0, .slice none 0 0, .int .i64 0] 68)
  have hp := heap_alloc_new (w1.alloc (.map #[] 0)) (.cells #[.slice A fs.length fc, .int .i64 fuel, .int .i64 most, .map (some (w.heap.size + 1)), .slice none 0 0, .map (some w1.heap.size), .slice none 0 0, .int .i64 0, .slice none 0 0, .slice none 0 0, .slice none 0 0, .int .i64 0] 68)
  rw [hW] at q2 hp
  rw [s1] at hp
  have hmade := BM.made w1
  have q12 : Below w1.heap.size w1 W2 := bch q1 q2
  have q02 : Below W0.heap.size W0 W2 := bch hb1 q12
  have hall : Below w.heap.size w W2 := bch hb q02
  refine ⟨Lib.hid (xr_new hp (by show w.heap.size + 1 ≤ w1.heap.size + 1; omega) (by show w.heap.size + 1 ≤ w1.heap.size; omega) (hmade.of_block (q2.block _ hmade.lt)) (hbm.of_block (q12.block _ hlt)) (by omega)), Lib.hid ⟨hF.rd.below hall, rfl, hF.len, hF.srt, fun f hf => Nat.le_trans (hF.txt f hf) (by omega)⟩, Lib.hid (fun h0 a ha => ?_), Lib.hid ((q02.block _ (by omega)).trans hk), Lib.hid hall⟩
  have := fl_lt hF.rd h0 a ha
  show a.block < w.heap.size + 1
  omega
end Go.Proofs.YtmnbepapgghdaaaGreat
