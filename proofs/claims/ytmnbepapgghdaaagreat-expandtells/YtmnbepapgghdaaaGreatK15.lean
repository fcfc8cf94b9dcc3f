/-
  The document's expansion in memory: what its rows hold, which blocks lie apart; a note.
  The document's expansion: burn, front, come.
  Plain mathematics of texts that hold commands and groups (layer 8): what they lex to; groups at the front. No program text in it.
-/
import Derived.Test.YtmnbepapgghdaaaGreatK13
import Derived.Test.YtmnbepapgghdaaaGreatK14
import Derived.Test.YtmnbepapgghdaaaGreatK01
import Derived.Test.YtmnbepapgghdaaaGreatK08
namespace Go.Proofs.YtmnbepapgghdaaaGreat
open Go.RowKit

/-- A slice's block. -/
def obA (A : Option Addr) : Option Nat := A.map (·.block)
theorem obA_own (A : Option Addr) (n c : Nat) : (Value.slice A n c).ownBlock = obA A := by cases A <;> rfl
/-- In none of these blocks. -/
def Gd (p : Nat) (g1 g2 g3 : Option Nat) (k : Nat) : Prop := k ≠ p ∧ some k ≠ g1 ∧ some k ≠ g2 ∧ some k ≠ g3
/-- All of it in such blocks. -/
def InQ (P : Nat → Prop) (A : Option Addr) (n : Nat) : Prop := 0 < n → ∀ a, A = some a → P a.block
theorem rows_apart {w : World} {b1 b2 t1 t2 s1 s2 n1 n2 : Nat} {v1 v2 : Value} {xs1 xs2 : List Value} (h1 : w.ownsRow b1 t1 s1 v1 n1 xs1) (h2 : w.ownsRow b2 t2 s2 v2 n2 xs2) (ht : t1 ≠ t2) : ∀ g, v1.ownBlock = some g → v2.ownBlock ≠ some g := fun g hg e => by
  rcases h1.2 with ⟨rfl, _⟩ | ⟨g1, cap1, cur1, rfl, _, hg1, _⟩
  · cases hg
  · rcases h2.2 with ⟨rfl, _⟩ | ⟨g2, cap2, cur2, rfl, _, hg2, _⟩
    · cases e
    · cases hg
      cases e
      rw [hg1] at hg2
      simp only [Option.some.injEq, Obj.cells.injEq] at hg2
      exact ht hg2.2.1
theorem row_keep {w w' : World} {base t s n : Nat} {v : Value} {xs : List Value} (h : w.ownsRow base t s v n xs) (hk : ∀ g, v.ownBlock = some g → w'.heap[g]? = w.heap[g]?) : w'.ownsRow base t s v n xs := by
  refine ⟨h.1, ?_⟩
  rcases h.2 with q | ⟨g, cap, cur, rfl, h2, h3, r⟩
  · exact .inl q
  · exact .inr ⟨g, cap, cur, rfl, h2, (hk g rfl).trans h3, r⟩
theorem Rd.heap {w w' : World} {A : Option Addr} {l : List Tok} (h : Rd w A l) (hk : 0 < l.length → ∀ a, A = some a → w'.heap[a.block]? = w.heap[a.block]?) : Rd w' A l := fun h0 => by
  obtain ⟨b, o, rfl, hc⟩ := h h0
  have e := hk h0 _ rfl
  simp only at e
  have q : ∀ j, w'.cell? ⟨b, j, none⟩ = w.cell? ⟨b, j, none⟩ := fun j => by simp only [World.cell?, e]
  exact ⟨b, o, rfl, fun i f hi => ⟨(q _).trans (hc i f hi).1, (q _).trans (hc i f hi).2⟩⟩
theorem hold_turn {P P' : Nat → Prop} {w w' : World} {g g' : Option Nat} (k : ∀ B (l : List Tok), Rd w B l → (0 < l.length → Pq.Far P g B) → Rd w' B l ∧ (0 < l.length → Pq.Far P' g' B)) : ∀ {ms : List Ml} {cs : List Value}, Pq.HoldM P w g ms cs → Pq.HoldM P' w' g' ms cs
  | [], _, h => h
  | m :: r, _, h => by
    obtain ⟨B, d, cs', rfl, h1, h2, h3⟩ := h
    obtain ⟨q1, q2⟩ := k B m.2.2 h1 h2
    exact ⟨B, d, cs', rfl, q1, q2, hold_turn k h3⟩
theorem rdM_move {P P' : Nat → Prop} {w w' : World} {A : Option Addr} {ms : List Ml} (h : Pq.RdM P w A ms) (hA : 0 < ms.length → ∀ a, A = some a → w'.heap[a.block]? = w.heap[a.block]?)
    (hB : ∀ B (l : List Tok), Rd w B l → InQ P B l.length → Rd w' B l ∧ InQ P' B l.length) : Pq.RdM P' w' A ms := fun h0 => by
  obtain ⟨b, o, cs, rfl, hh, hc⟩ := h h0
  have e := hA h0 _ rfl
  simp only at e
  have q : ∀ j, w'.cell? ⟨b, j, none⟩ = w.cell? ⟨b, j, none⟩ := fun j => by simp only [World.cell?, e]
  refine ⟨b, o, cs, rfl, hold_turn (fun B l r f => ?_) hh, fun j u hu => (q _).trans (hc j u hu)⟩
  obtain ⟨r1, r2⟩ := hB B l r fun h1 a ha => (f h1 a ha).2
  exact ⟨r1, fun h1 a ha => ⟨fun e => (by cases e), r2 h1 a ha⟩⟩
/-- What an expansion holds beside its own cells. -/
structure WkR (w : World) (base p : Nat) (IA MA LA RA NA : Option Addr) (lc rc nc : Nat) (e : Ex) : Prop where
  out : Own 82 w base LA lc e.out
  reads : OwnT w base RA rc e.reads
  notes : Own 86 w base NA nc e.notes
  pl : obA LA ≠ some p
  pr : obA RA ≠ some p
  pn : obA NA ≠ some p
  inp : Rd w IA e.inp
  inpP : InQ (Gd p (obA LA) (obA RA) (obA NA)) IA e.inp.length
  ms : Pq.RdM (Gd p (obA LA) (obA RA) (obA NA)) w MA e.ms
  msP : InQ (Gd p (obA LA) (obA RA) (obA NA)) MA e.ms.length
theorem rd_in {w : World} {A : Option Addr} {l : List Tok} (h : Rd w A l) : InQ (· < w.heap.size) A l.length := fun h0 a ha => by
  obtain ⟨b, o, e, hc⟩ := h h0
  obtain ⟨f, hf0⟩ : ∃ f, l[0]? = some f := ⟨_, List.getElem?_eq_getElem h0⟩
  have hl := World.block_lt_of_cell? w _ (hc 0 f hf0).1
  rw [e] at ha
  cases ha
  exact hl
theorem rdM_in {P : Nat → Prop} {w : World} {A : Option Addr} {ms : List Ml} (h : Pq.RdM P w A ms) : InQ (· < w.heap.size) A ms.length := fun h0 a ha => by
  obtain ⟨b, o, e, hc⟩ := Pq.RdMF.cells h h0
  obtain ⟨f, hf0⟩ : ∃ f, ms[0]? = some f := ⟨_, List.getElem?_eq_getElem h0⟩
  obtain ⟨B, d, h1, _⟩ := hc 0 f hf0
  have hl := World.block_lt_of_cell? w _ h1
  rw [e] at ha
  cases ha
  exact hl
/-- Nothing that it holds has turned. -/
theorem WkR.below {w w' : World} {base p : Nat} {IA MA LA RA NA : Option Addr} {lc rc nc : Nat} {e : Ex} (h : WkR w base p IA MA LA RA NA lc rc nc e) (hb : Below w.heap.size w w') : WkR w' base p IA MA LA RA NA lc rc nc e := by
  have k : ∀ {t s n : Nat} {v : Value} {xs : List Value}, w.ownsRow base t s v n xs → w'.ownsRow base t s v n xs := fun r => row_keep r fun g hg => hb.block g (r.lt g hg).2
  exact ⟨k h.out, k h.reads, k h.notes, h.pl, h.pr, h.pn, h.inp.below hb, h.inpP, rdM_move h.ms (fun h0 a ha => hb.block _ (rdM_in h.ms h0 a ha)) fun B l r q => ⟨r.below hb, q⟩, h.msP⟩
/-- A store into its own cells. -/
theorem WkR.set {w : World} {base p : Nat} {IA MA LA RA NA : Option Addr} {lc rc nc : Nat} {e : Ex} (h : WkR w base p IA MA LA RA NA lc rc nc e) (j : Nat) (v : Value) : WkR (w.setCell ⟨p, j, none⟩ v) base p IA MA LA RA NA lc rc nc e := by
  have hk : ∀ b, b ≠ p → (w.setCell ⟨p, j, none⟩ v).heap[b]? = w.heap[b]? := fun b hb => Below.heap_setCell w ⟨p, j, none⟩ v b hb
  refine ⟨row_keep h.out fun g hg => hk g fun e => h.pl (by rw [← obA_own LA _ lc, hg, e]), row_keep h.reads fun g hg => hk g fun e => h.pr (by rw [← obA_own RA _ rc, hg, e]), row_keep h.notes fun g hg => hk g fun e => h.pn (by rw [← obA_own NA _ nc, hg, e]), h.pl, h.pr, h.pn,
    h.inp.heap fun h0 a ha => hk _ (h.inpP h0 a ha).1, h.inpP, rdM_move h.ms (fun h0 a ha => hk _ (h.msP h0 a ha).1) fun B l r q => ⟨r.heap fun h0 a ha => hk _ (q h0 a ha).1, q⟩, h.msP⟩
/-- A note more. -/
theorem WkR.note {w w' : World} {base p : Nat} {IA MA LA RA NA NA' : Option Addr} {lc rc nc nc' : Nat} {e : Ex} {k : Int} {s : By} (h : WkR w base p IA MA LA RA NA lc rc nc e) (ho : Own 86 w' base NA' nc' (e.notes ++ [(k, s)])) (hg : w.grownBy w' (obA NA)) (hn : obA NA' = obA NA ∨ obA NA' = some w.heap.size) (hp : p < w.heap.size) :
    WkR w' base p IA MA LA RA NA' lc rc nc' (e.note k s) := by
  obtain ⟨_, _, _, _, hkeep⟩ := hg
  have far : ∀ g, g < w.heap.size → some g ≠ obA NA → w'.heap[g]? = w.heap[g]? := fun g h1 h2 => hkeep g h1 h2
  have new : ∀ g, g < w.heap.size → some g ≠ obA NA → some g ≠ obA NA' := fun g h1 h2 e => by
    rcases hn with q | q
    · exact h2 (e.trans q)
    · rw [q] at e
      have := Option.some.inj e
      omega
  have hl := rows_apart h.out h.notes (by decide)
  have hr := rows_apart h.reads h.notes (by decide)
  refine ⟨row_keep h.out fun g hg => far g (h.out.lt g hg).2 fun e => hl g hg (by rw [obA_own, e]), row_keep h.reads fun g hg => far g (World.ownsRow.lt h.reads g hg).2 fun e => hr g hg (by rw [obA_own, e]), ho, h.pl, h.pr, fun e => new p hp (fun e => h.pn e.symm) e.symm,
    h.inp.heap fun h0 a ha => far _ (rd_in h.inp h0 a ha) (h.inpP h0 a ha).2.2.2, fun h0 a ha => ?_, rdM_move h.ms (fun h0 a ha => far _ (rdM_in h.ms h0 a ha) (h.msP h0 a ha).2.2.2) fun B l r q => ⟨r.heap fun h0 a ha => far _ (rd_in r h0 a ha) (q h0 a ha).2.2.2, fun h0 a ha => ?_⟩, fun h0 a ha => ?_⟩
  · obtain ⟨q1, q2, q3, q4⟩ := h.inpP h0 a ha
    exact ⟨q1, q2, q3, new _ (rd_in h.inp h0 a ha) q4⟩
  · obtain ⟨q1, q2, q3, q4⟩ := q h0 a ha
    exact ⟨q1, q2, q3, new _ (rd_in r h0 a ha) q4⟩
  · obtain ⟨q1, q2, q3, q4⟩ := h.msP h0 a ha
    exact ⟨q1, q2, q3, new _ (rdM_in h.ms h0 a ha) q4⟩
/-- An expansion that goes on, in memory of the call's own. -/
def Wk (w : World) (base p : Nat) (FA : Option Addr) (fn fc most : Nat) (e : Ex) : Prop :=
  ∃ (IA MA LA RA NA : Option Addr) (ic mc lc rc nc : Nat), base ≤ p ∧ WkR w base p IA MA LA RA NA lc rc nc e ∧
    w.heap[p]? = some (.cells #[.slice FA fn fc, .slice IA e.inp.length ic, .slice MA e.ms.length mc, .int .i64 e.fuel, .int .i64 most, .slice LA e.out.length lc, .slice RA e.reads.length rc, .slice NA e.notes.length nc, .int .i64 e.used] 77)
/-- An expansion's own cells. -/
def wkC (FA : Option Addr) (fn fc most : Nat) (IA MA LA RA NA : Option Addr) (ic mc lc rc nc : Nat) (e : Ex) : Array Value :=
  #[.slice FA fn fc, .slice IA e.inp.length ic, .slice MA e.ms.length mc, .int .i64 e.fuel, .int .i64 most, .slice LA e.out.length lc, .slice RA e.reads.length rc, .slice NA e.notes.length nc, .int .i64 e.used]
theorem note_step {w w1 w2 : World} {base p : Nat} {FA : Option Addr} {fn fc most : Nat} {IA MA LA RA NA A' : Option Addr} {ic mc lc rc nc c' : Nat} {e : Ex} {k : Int} {s : By} (hR : WkR w1 base p IA MA LA RA NA lc rc nc e) (hk : w1.heap[p]? = some (.cells (wkC FA fn fc most IA MA LA RA NA ic mc lc rc nc e) 77)) (hB : Below base w w1) (hp : base ≤ p) (hs : base ≤ w1.heap.size)
    (ho2 : Own 86 w2 base A' c' (e.notes ++ [(k, s)])) (hg2 : w1.grownBy w2 (Value.slice NA e.notes.length nc).ownBlock) (hn2 : (Value.slice A' (e.notes ++ [(k, s)]).length c').ownBlock = (Value.slice NA e.notes.length nc).ownBlock ∨ (Value.slice A' (e.notes ++ [(k, s)]).length c').ownBlock = some w1.heap.size) :
    w2.cell? ⟨p, 7, none⟩ = some (.slice NA e.notes.length nc) ∧ w2.frozen? ⟨p, 7, none⟩ = false ∧ Hid (Wk (w2.setCell ⟨p, 7, none⟩ (.slice A' (e.notes ++ [(k, s)]).length c')) base p FA fn fc most (e.note k s)) ∧ Hid (Below base w (w2.setCell ⟨p, 7, none⟩ (.slice A' (e.notes ++ [(k, s)]).length c'))) := by
  rw [obA_own] at hg2
  rw [obA_own, obA_own] at hn2
  have hpl := lt_of_blk hk
  have hk2 : w2.heap[p]? = some (.cells (wkC FA fn fc most IA MA LA RA NA ic mc lc rc nc e) 77) := by
    obtain ⟨_, _, _, _, q⟩ := hg2
    exact (q p hpl fun x => hR.pn x.symm).trans hk
  have hR2 := hR.note ho2 hg2 hn2 hpl
  exact ⟨cell_of hk2 7, frozen_of hk2 7, Lib.hid ⟨IA, MA, LA, RA, A', ic, mc, lc, rc, c', hp, hR2.set 7 _, blk_set hk2 7 _⟩, Lib.hid ((hB.trans (below_grown hR.notes (by rw [obA_own]; exact hg2) hs)).setCell hp (p := ⟨p, 7, none⟩) _)⟩
set_option maxRecDepth 100000 in
set_option maxHeartbeats 2000000 in
theorem rnote_any (base p : Nat) (FA : Option Addr) (fn fc most : Nat) (e : Ex) (k : Int) (s : By) (w : World) (h : Wk w base p FA fn fc most e) (hn : e.notes.length ≤ 100000) (hbase : base ≤ w.heap.size) :
    Calls Tryz.prog 29 #[.pointer (some ⟨p, 0, none⟩), .int .i64 k, .string ⟨s.toArray⟩] w fun en w' => en = .returned (.tuple #[]) ∧ Below base w w' ∧ Wk w' base p FA fn fc most (e.note k s) := by
  obtain ⟨IA, MA, LA, RA, NA, ic, mc, lc, rc, nc, hp, hr, hk⟩ := h
  have c7 : w.cell? ⟨p, 7, none⟩ = some (.slice NA e.notes.length nc) := cell_of hk 7
  have o1 := one_below w (.cells #[.int .i64 k, .string ⟨s.toArray⟩] 86)
  have HB1 := Lib.hid (o1.mono hbase)
  have HR1 := Lib.hid (hr.below o1)
  have HK1 := Lib.hid (show (w.alloc (.cells #[.int .i64 k, .string ⟨s.toArray⟩] 86)).heap[p]? = some (.cells (wkC FA fn fc most IA MA LA RA NA ic mc lc rc nc e) 77) from (o1.block p (lt_of_blk hk)).trans hk)
  have HG := Lib.hid (show Rd (w.alloc (.cells #[.int .i64 k, .string ⟨s.toArray⟩] 86)) (some ⟨w.heap.size, 0, none⟩) [(k, s)] from fun _ => ⟨w.heap.size, 0, rfl, fun i f hi => by
    match i, hi with
    | 0, hi => simp at hi; subst hi; exact ⟨by rw [World.cell?_alloc_new]; rfl, by rw [World.cell?_alloc_new]; rfl⟩
    | i + 1, hi => simp at hi⟩)
  have HS := Lib.hid (show base ≤ (w.alloc (.cells #[.int .i64 k, .string ⟨s.toArray⟩] 86)).heap.size by have := o1.size; omega)
  clear hk hr o1
  go_enter Tryz.func29, Tryz.ntmps29
  go_wp2_with (at_builtin; refine wpList_append_n _ rfl _ _ rfl base NA nc e.notes rfl HR1.out.notes (some ⟨w.heap.size, 0, none⟩) 1 1 [(k, s)] rfl rfl HG.out (by show _ + 1 ≤ _; omega) HS.out _ rfl ?_; intro A' c' w2 ho2 hg2 hn2; obtain ⟨d7, f7, HW, HB2⟩ := note_step HR1.out HK1.out HB1.out hp HS.out ho2 hg2 hn2; clear ho2 hg2 hn2)
  go_end0
  rw [show e.notes.length + 1 = (e.notes ++ [(k, s)]).length by simp]
  exact ⟨rfl, HB2.out, HW.out⟩
end Go.Proofs.YtmnbepapgghdaaaGreat

namespace Go.Proofs.YtmnbepapgghdaaaGreat
open Go.RowKit

theorem burn_step {w : World} {base p : Nat} {FA : Option Addr} {fn fc most : Nat} {e : Ex} (h : Wk w base p FA fn fc most e) (hf : e.fuel ≠ 0) :
    w.cell? ⟨p, 3, none⟩ = some (.int .i64 e.fuel) ∧ w.frozen? ⟨p, 3, none⟩ = false ∧ (w.setCell ⟨p, 3, none⟩ (.int .i64 ((e.fuel : Int) - 1))).cell? ⟨p, 8, none⟩ = some (.int .i64 e.used) ∧ (w.setCell ⟨p, 3, none⟩ (.int .i64 ((e.fuel : Int) - 1))).frozen? ⟨p, 8, none⟩ = false ∧
      Hid (Wk ((w.setCell ⟨p, 3, none⟩ (.int .i64 ((e.fuel : Int) - 1))).setCell ⟨p, 8, none⟩ (.int .i64 ((e.used : Int) + 1))) base p FA fn fc most e.burn) ∧ Hid (Below base w ((w.setCell ⟨p, 3, none⟩ (.int .i64 ((e.fuel : Int) - 1))).setCell ⟨p, 8, none⟩ (.int .i64 ((e.used : Int) + 1)))) := by
  obtain ⟨IA, MA, LA, RA, NA, ic, mc, lc, rc, nc, hp, hr, hk⟩ := h
  have k1 := blk_set hk 3 (.int .i64 ((e.fuel : Int) - 1))
  have k2 := blk_set k1 8 (.int .i64 ((e.used : Int) + 1))
  have hR := (hr.set 3 (.int .i64 ((e.fuel : Int) - 1))).set 8 (.int .i64 ((e.used : Int) + 1))
  refine ⟨cell_of hk 3, frozen_of hk 3, cell_of k1 8, frozen_of k1 8, Lib.hid ⟨IA, MA, LA, RA, NA, ic, mc, lc, rc, nc, hp, ⟨hR.out, hR.reads, hR.notes, hR.pl, hR.pr, hR.pn, hR.inp, hR.inpP, hR.ms, hR.msP⟩, ?_⟩, Lib.hid (((Below.refl base w).setCell hp (p := ⟨p, 3, none⟩) _).setCell hp (p := ⟨p, 8, none⟩) _)⟩
  rw [k2]
  have e1 : ((e.burn.fuel : Nat) : Int) = (e.fuel : Int) - 1 := by show ((e.fuel - 1 : Nat) : Int) = _; omega
  have e2 : ((e.burn.used : Nat) : Int) = (e.used : Int) + 1 := by show ((e.used + 1 : Nat) : Int) = _; omega
  rw [e1, e2]
  rfl
theorem wk_fuel {w : World} {base p : Nat} {FA : Option Addr} {fn fc most : Nat} {e : Ex} (h : Wk w base p FA fn fc most e) : w.cell? ⟨p, 3, none⟩ = some (.int .i64 e.fuel) := by
  obtain ⟨IA, MA, LA, RA, NA, ic, mc, lc, rc, nc, hp, hr, hk⟩ := h
  exact cell_of hk 3
def burnE (e : Ex) (s : By) : Ex := if e.fuel = 0 then e.note 9 s else e.burn
set_option maxRecDepth 100000 in
set_option maxHeartbeats 2000000 in
theorem rburn_any (base p : Nat) (FA : Option Addr) (fn fc most : Nat) (e : Ex) (s : By) (w : World) (h : Wk w base p FA fn fc most e) (hn : e.notes.length ≤ 100000) (hbase : base ≤ w.heap.size) (hf : e.fuel ≤ 1000) (hu : e.used ≤ 100000) :
    Calls Tryz.prog 88 #[.pointer (some ⟨p, 0, none⟩), .string ⟨s.toArray⟩] w fun en w' => en = .returned (.bool (decide (e.fuel ≠ 0))) ∧ Below base w w' ∧ Wk w' base p FA fn fc most (burnE e s) := by
  by_cases h0 : e.fuel = 0
  · have c3 := wk_fuel h
    rw [h0] at c3
    have C := Lib.hid (rnote_any base p FA fn fc most e 9 s w h hn hbase)
    have e1 : burnE e s = e.note 9 s := if_pos h0
    have e2 : decide (e.fuel ≠ 0) = false := by simp [h0]
    rw [e1, e2]
    clear h e1 e2
    go_enter Tryz.func88, Tryz.ntmps88
    go_wp2_with fail
    refine C.out.mono ?_
    rintro en w' ⟨rfl, hb, hw⟩
    go_wp2
    go_ret
    exact ⟨rfl, hb, hw⟩
  · obtain ⟨c3, f3, c8, f8, HW, HB⟩ := burn_step h h0
    have e1 : burnE e s = e.burn := if_neg h0
    have e2 : decide (e.fuel ≠ 0) = true := by simp [h0]
    have q : ((e.fuel : Int) == 0) = false := by simp [h0]
    rw [e1, e2]
    clear h e1 e2
    go_enter Tryz.func88, Tryz.ntmps88
    go_wp2
    go_ret
    exact ⟨rfl, HB.out, HW.out⟩
end Go.Proofs.YtmnbepapgghdaaaGreat

namespace Go.Proofs.YtmnbepapgghdaaaGreat

/-! ### which tokens a text may have -/
theorem one_kind (c : UInt8) (r : By) : (one c r).1.1 = kd c r ∨ (one c r).1 = (3, []) ∧ kd c r = 2 := by
  rcases kd_ways c r with h | ⟨h, _⟩ | h | h | ⟨h, _⟩ | h
  · have e : (one c r).1 = (if 2 ≤ (gapG false 0 (c :: r)).1 then 3 else 2, []) := by unfold one; rw [if_neg (by omega), if_pos h]
    rw [e, h]
    by_cases q : 2 ≤ (gapG false 0 (c :: r)).1
    · rw [if_pos q]; exact .inr ⟨rfl, rfl⟩
    · rw [if_neg q]; exact .inl rfl
  all_goals (left; unfold one; rw [h]; rfl)
theorem one_four {c : UInt8} {r : By} {w : By} (h : (one c r).1 = (4, w)) : c = 92 ∧ w = r.takeWhile ltr := by
  rcases one_kind c r with q | ⟨q, _⟩
  · rw [h] at q
    have q' : kd c r = 4 := q.symm
    refine ⟨?_, ?_⟩
    · rcases kd_ways c r with k | ⟨_, k, _⟩ | k | k | ⟨k, _⟩ | k
      · rw [q'] at k; cases k
      · exact k
      all_goals (rw [q'] at k; cases k)
    · have e : (one c r).1 = (4, r.takeWhile ltr) := by unfold one; rw [q']; rfl
      rw [e] at h
      exact (congrArg Prod.snd h).symm
  · rw [h] at q; cases q
/-- Each token begins somewhere in the text. -/
theorem tok_at : ∀ (f : Nat) (s : By), s.length ≤ f → ∀ t ∈ toks s, ∃ c r, (c :: r) <:+ s ∧ t = (one c r).1
  | _, [], _, t, ht => by rw [toks_nil] at ht; cases ht
  | 0, c :: r, h, _, _ => by simp at h
  | f + 1, c :: r, h, t, ht => by
    simp at h
    rw [toks_cons] at ht
    rcases List.mem_cons.1 ht with rfl | ht
    · exact ⟨c, r, List.suffix_refl _, rfl⟩
    · obtain ⟨d, u, h1, h2⟩ := tok_at f _ (by have := one_less c r; omega) t ht
      exact ⟨d, u, h1.trans (one_suffix c r), h2⟩
/-- A command stands in the text as it is written. -/
theorem command_in {s w : By} (h : (4, w) ∈ toks s) : (92 :: w) <:+: s := by
  obtain ⟨c, r, h1, h2⟩ := tok_at _ s (Nat.le_refl _) _ h
  obtain ⟨rfl, rfl⟩ := one_four h2.symm
  obtain ⟨u, hu⟩ := List.takeWhile_prefix (p := ltr) (l := r)
  exact (show (92 :: r.takeWhile ltr) <+: (92 :: r) from ⟨u, by rw [List.cons_append, hu]⟩).isInfix.trans h1.isInfix
/-- Without a backslash no command. -/
theorem no_command {s : By} (h : ∀ c ∈ s, c ≠ 92) : ∀ t ∈ toks s, t.1 ≠ 4 := by
  intro t ht e
  obtain ⟨k, w⟩ := t
  simp only at e
  subst e
  obtain ⟨c, r, h1, h2⟩ := tok_at _ s (Nat.le_refl _) _ ht
  exact h c (h1.subset List.mem_cons_self) (one_four h2.symm).1
/-! ### texts of letters and blanks -/
/-- A letter, or a blank. -/
def simB (c : UInt8) : Bool := ltr c || c == 32
/-- Letters and blanks, the last one a letter. -/
def Sim (s : By) : Prop := (∀ c ∈ s, simB c = true) ∧ ∀ c, s.getLast? = some c → ltr c = true
theorem ltr_kd {c : UInt8} (h : ltr c = true) (r : By) : kd c r = 1 := kd_plain (ltr_plain h) r
theorem blank_kd (r : By) : kd 32 r = 2 := kd_two.2 (by decide)
theorem sim_ways {c : UInt8} (h : simB c = true) : ltr c = true ∨ c = 32 := by
  unfold simB at h
  simpa using h
theorem sim_suffix {s v : By} (h : Sim s) (hv : v <:+ s) : Sim v := by
  obtain ⟨p, rfl⟩ := hv
  refine ⟨fun c hc => h.1 c (by simp [hc]), fun c hc => h.2 c ?_⟩
  rw [List.getLast?_append, hc]; rfl
theorem word_front (u : By) (hu : hk u ≠ 1) : ∀ (s : By), (∀ c ∈ s, simB c = true) → wordG (s ++ u) = ((wordG s).1, (wordG s).2 ++ u)
  | [], _ => by rw [List.nil_append, word_none hu]; rfl
  | c :: r, h => by
    rcases sim_ways (h c (by simp)) with q | q
    · have hc : c ≠ 92 := fun e => by subst e; exact absurd q (by decide)
      rw [List.cons_append, word_step hc (ltr_kd q _), word_step hc (ltr_kd q _), word_front u hu r fun x hx => h x (by simp [hx])]
    · subst q
      have k1 : hk (32 :: r) ≠ 1 := by show kd 32 r ≠ 1; rw [blank_kd]; decide
      have k2 : hk (32 :: (r ++ u)) ≠ 1 := by show kd 32 (r ++ u) ≠ 1; rw [blank_kd]; decide
      rw [List.cons_append, word_none k2, word_none k1]; rfl
theorem gap_some : ∀ (s : By) (n : Nat), (∃ c ∈ s, ltr c = true) → (∀ c ∈ s, simB c = true) → (gapG false n s).2 ≠ []
  | [], n, h, _ => by obtain ⟨c, hc, _⟩ := h; cases hc
  | c :: r, n, h, hs => by
    rcases sim_ways (hs c (by simp)) with q | q
    · have e : gapG false n (c :: r) = (n, c :: r) := gap_none (by show kd c r ≠ 2; rw [ltr_kd q]; decide) n
      rw [e]; simp
    · subst q
      obtain ⟨x, hx, hl⟩ := h
      have hr : ∃ x ∈ r, ltr x = true := by
        rcases List.mem_cons.1 hx with rfl | hx
        · exact absurd hl (by decide)
        · exact ⟨x, hx, hl⟩
      have := gap_some r n hr fun x hx => hs x (by simp [hx])
      unfold gapG
      rw [if_neg (by decide), if_neg (by decide), if_pos (by decide)]
      exact this
theorem toks_sim (u : By) (hu : hk u ≠ 1) : ∀ (f : Nat) (s : By), s.length ≤ f → Sim s → toks (s ++ u) = toks s ++ toks u
  | _, [], _, _ => rfl
  | 0, c :: r, h, _ => by simp at h
  | f + 1, c :: r, h, hs => by
    simp at h
    have e : one c (r ++ u) = ((one c r).1, (one c r).2 ++ u) := by
      rcases sim_ways (hs.1 c (by simp)) with q | q
      · have e1 : one c r = ((1, (wordG (c :: r)).1), (wordG (c :: r)).2) := by unfold one; rw [if_pos (ltr_kd q r)]
        have e2 : one c (r ++ u) = ((1, (wordG (c :: (r ++ u))).1), (wordG (c :: (r ++ u))).2) := by unfold one; rw [if_pos (ltr_kd q _)]
        have := word_front u hu (c :: r) hs.1
        rw [List.cons_append] at this
        rw [e1, e2, this]
      · subst q
        have e1 : one 32 r = ((if 2 ≤ (gapG false 0 (32 :: r)).1 then 3 else 2, []), (gapG false 0 (32 :: r)).2) := by unfold one; rw [if_neg (by rw [blank_kd]; decide), if_pos (blank_kd r)]
        have e2 : one 32 (r ++ u) = ((if 2 ≤ (gapG false 0 (32 :: (r ++ u))).1 then 3 else 2, []), (gapG false 0 (32 :: (r ++ u))).2) := by unfold one; rw [if_neg (by rw [blank_kd]; decide), if_pos (blank_kd _)]
        have hn : ∃ x ∈ (32 :: r), ltr x = true := by
          cases hl : (32 :: r).getLast? with
          | none => simp at hl
          | some x => exact ⟨x, List.mem_of_getLast? hl, hs.2 x hl⟩
        have := gap_app u (32 :: r) false 0 (gap_some _ 0 hn hs.1)
        rw [List.cons_append] at this
        rw [e1, e2, this]
    rw [List.cons_append, toks_cons, e, toks_cons]
    rw [toks_sim u hu f _ (by have := one_less c r; omega) (sim_suffix hs (one_suffix c r))]
    rfl
/-- The tokens of letters and blanks are Words and Spaces. -/
theorem sim_kinds {s : By} (h : ∀ c ∈ s, simB c = true) : ∀ t ∈ toks s, t.1 = 1 ∨ t.1 = 2 ∨ t.1 = 3 := by
  intro t ht
  obtain ⟨c, r, h1, rfl⟩ := tok_at _ s (Nat.le_refl _) _ ht
  rcases one_kind c r with q | ⟨q, _⟩
  · rw [q]
    rcases sim_ways (h c (h1.subset List.mem_cons_self)) with k | rfl
    · rw [ltr_kd k]; simp
    · rw [blank_kd]; simp
  · rw [q]; simp
theorem bal_flat : ∀ {l : List Tok} (d : Nat), (∀ t ∈ l, t.1 ≠ 5 ∧ t.1 ≠ 6) → balG d l = (d == 0)
  | [], d, _ => rfl
  | t :: r, d, h => by
    obtain ⟨h5, h6⟩ := h t (by simp)
    unfold balG
    rw [if_neg h5, if_neg h6]
    exact bal_flat d fun x hx => h x (by simp [hx])
/-- Tokens written out at the front of a text. -/
theorem toks_front : ∀ (l : List Tok) (u : By), rightL l = true → (∀ t, l.getLast? = some t → fits t u) → toks (textL l ++ u) = l ++ toks u
  | [], u, _, _ => rfl
  | [a], u, h, hf => by
    have e : textL [a] = tokT a := by simp [textL]
    rw [e, toks_tok a u h (hf a rfl)]; rfl
  | a :: b :: r, u, h, hf => by
    unfold rightL at h
    rw [Bool.and_eq_true, Bool.and_eq_true] at h
    obtain ⟨⟨h1, h2⟩, h3⟩ := h
    have hb : mayB b = true := by
      cases r with
      | nil => exact h3
      | cons c r => unfold rightL at h3; rw [Bool.and_eq_true, Bool.and_eq_true] at h3; exact h3.1.1
    have ih := toks_front (b :: r) u h3 (fun t ht => hf t (by rw [List.getLast?_cons_cons]; exact ht))
    have e : textL (a :: b :: r) ++ u = tokT a ++ (textL (b :: r) ++ u) := by simp [textL]
    have e2 : textL (b :: r) ++ u = tokT b ++ (textL r ++ u) := by simp [textL]
    rw [e, toks_tok a _ h1 (by rw [e2]; exact fits_next h2 hb _), ih]; rfl

/-! ### groups at the front -/
/-- Groups, each behind Spaces. -/
def gpsL : List (List Tok × List Tok) → List Tok
  | [] => []
  | g :: r => g.1 ++ (5, []) :: (g.2 ++ (6, []) :: gpsL r)
theorem args_front (v : List Tok) : ∀ (gs : List (List Tok × List Tok)) (pre : List Tok), (∀ g ∈ gs, (∀ t ∈ g.1, t.1 = 2) ∧ balG 0 g.2 = true) →
    argsG (pre ++ (gpsL gs ++ v)) gs.length pre.length = some (gs.map (·.2), (pre ++ gpsL gs).length)
  | [], pre, _ => by simp [argsG, gpsL]
  | g :: r, pre, h => by
    obtain ⟨hs, hb⟩ := h g (by simp)
    have e1 : pre ++ (gpsL (g :: r) ++ v) = (pre ++ g.1) ++ (5, []) :: (g.2 ++ (6, []) :: (gpsL r ++ v)) := by simp [gpsL]
    have e2 : pre ++ (gpsL (g :: r) ++ v) = (pre ++ g.1 ++ (5, []) :: (g.2 ++ [(6, [])])) ++ (gpsL r ++ v) := by simp [gpsL]
    have hk : skipN (pre ++ (gpsL (g :: r) ++ v)) pre.length = (pre ++ g.1).length := by
      have := skip_open pre g.1 (g.2 ++ (6, []) :: (gpsL r ++ v)) [] hs
      rw [List.length_append, ← this]
      congr 1
      simp [gpsL]
    have ih := args_front v r (pre ++ g.1 ++ (5, []) :: (g.2 ++ [(6, [])])) (fun x hx => h x (by simp [hx]))
    rw [← e2] at ih
    have hg : grpN (pre ++ (gpsL (g :: r) ++ v)) (pre ++ g.1).length = some ((pre ++ g.1).length + g.2.length + 2) := by
      rw [e1]; exact grp_bal _ g.2 _ _ _ hb
    have hw : within (pre ++ (gpsL (g :: r) ++ v)) (pre ++ g.1).length ((pre ++ g.1).length + g.2.length + 2) = g.2 := by
      rw [e1]; exact within_bal _ g.2 _ _ _
    have hl2 : (pre ++ g.1 ++ (5, []) :: (g.2 ++ [(6, ([] : By))])).length = (pre ++ g.1).length + g.2.length + 2 := by simp; omega
    rw [hl2] at ih
    rw [List.length_cons]
    unfold argsG
    rw [hk, hg]
    simp only [hw, ih, Option.map_some, List.map_cons, Option.some.injEq, Prod.mk.injEq, true_and]
    simp [gpsL]
theorem args_now (gs : List (List Tok × List Tok)) (v : List Tok) (h : ∀ g ∈ gs, (∀ t ∈ g.1, t.1 = 2) ∧ balG 0 g.2 = true) : argsG (gpsL gs ++ v) gs.length 0 = some (gs.map (·.2), (gpsL gs).length) := by
  have := args_front v gs [] h
  simpa using this
end Go.Proofs.YtmnbepapgghdaaaGreat
