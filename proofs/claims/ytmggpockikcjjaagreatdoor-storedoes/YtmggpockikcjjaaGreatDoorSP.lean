/-
  Words for one step over a store: lists and the step itself apart from it; what a step leaves.
-/
import Derived.Test.YtmggpockikcjjaaGreatDoorSK
namespace Go.Proofs.YtmggpockikcjjaaGreatDoor
open Go.RowKit
open Dsk (DS Tx Wt Kp DiskAt NoB Ok newS crashS limitS RdB)

def stepO (Af : Option Addr) (m cf : Nat) (raw : Bool) (lim : Int) (cr : Bool) (B : Option Addr) (k cB : Nat) : Obj := .cells #[.slice Af m cf, .bool raw, .int .i64 lim, .bool cr, .slice B k cB] 32
theorem box_cells {w : World} {g : Nat} {Af B : Option Addr} {m cf k cB : Nat} {raw cr : Bool} {lim : Int} (h : w.heap[g]? = some (stepO Af m cf raw lim cr B k cB)) :
    w.cell? ⟨g, 0, none⟩ = some (.slice Af m cf) ∧ w.cell? ⟨g, 1, none⟩ = some (.bool raw) ∧ w.cell? ⟨g, 2, none⟩ = some (.int .i64 lim) ∧ w.cell? ⟨g, 3, none⟩ = some (.bool cr) ∧ w.cell? ⟨g, 4, none⟩ = some (.slice B k cB) :=
  ⟨Dsk.cell_of h 0, Dsk.cell_of h 1, Dsk.cell_of h 2, Dsk.cell_of h 3, Dsk.cell_of h 4⟩
/-- The lists of a step, and the step, apart from the store. -/
structure TL (w : World) (F : Nat → Prop) (q : Nat) (An : Option Addr) (now : List Fl) (Al : Option Addr) (L : List Fl) (g : Nat) (o : Obj) : Prop where
  nw : RdA w F q An now
  rl : RdA w F q Al L
  bx : w.heap[g]? = some o
  g1 : ¬ F g
  g2 : g ≠ q
theorem TL.below {w w' : World} {F : Nat → Prop} {q : Nat} {An Al : Option Addr} {now L : List Fl} {g : Nat} {o : Obj} (h : TL w F q An now Al L g o) (hb : Below w.heap.size w w') : TL w' F q An now Al L g o := ⟨h.nw.below hb, h.rl.below hb, blk_below hb h.bx, h.g1, h.g2⟩
theorem TL.stp {w w' : World} {F F' : Nat → Prop} {q q' : Nat} {An Al : Option Addr} {now L : List Fl} {g : Nat} {o : Obj} (h : TL w F q An now Al L g o) (k : Stp w F q w' F' q') : TL w' F' q' An now Al L g o := by
  have hlt := Dsk.lt_of_blk h.bx
  refine ⟨h.nw.stp k, h.rl.stp k, k.kp.keep h.bx (fun x => by rcases x with x | x; exact h.g1 x; exact h.g2 x), not_new h.g1 hlt k.sub, fun e => ?_⟩
  rcases k.q with p | p
  · exact h.g2 (e.trans p)
  · omega
/-- What a step leaves: a store whose files are those that are told. -/
def TryPost (w0 : World) (s n : Nat) (st : DS) (e : Ending) (w' : World) : Prop :=
  ∃ (q' : Nat) (F' : Nat → Prop) (st' : DS) (fs' : List Fl) (A' : Option Addr) (c' : Nat), e = .returned (.tuple #[.pointer (some ⟨q', 0, none⟩), .slice A' fs'.length c', .bool true]) ∧ LS w0 w' q' s F' n fs' st' ∧ st'.lim = none ∧ st'.cnt ≤ st.cnt + halfN n + 1 ∧ RdA w' F' q' A' fs'
theorem pend_ls {w0 w : World} {q s n : Nat} {F : Nat → Prop} {st : DS} {fs : List Fl} (h : LS w0 w q s F n fs st) : Calls Tryz.prog 23 #[.pointer (some ⟨s, 0, none⟩)] w fun e w' => e = .returned (.int .i64 0) ∧ w' = w := by
  have := Dsk.pending_disk h.sat.disk
  rw [h.sat.pend] at this
  exact this
theorem len_ls {w0 w : World} {q s n : Nat} {F : Nat → Prop} {st : DS} {fs : List Fl} (h : LS w0 w q s F n fs st) : Calls Tryz.prog 22 #[.pointer (some ⟨s, 0, none⟩)] w fun e w' => e = .returned (.int .i64 n) ∧ w' = w := by
  have := Dsk.len_disk h.sat.disk
  rw [h.sat.num] at this
  exact this
theorem load_len {w0 w : World} {q s n : Nat} {F : Nat → Prop} {st : DS} {fs : List Fl} (h : LS w0 w q s F n fs st) : fs.length ≤ 32 := h.sat.good.2.1
theorem crash_lim (st : DS) (ks : List Bool) : (crashS st ks).lim = none := rfl
theorem crash_cnt (st : DS) (ks : List Bool) : (crashS st ks).cnt = st.cnt := rfl
theorem limit_cnt (st : DS) (k : Int) : (limitS st k).cnt = st.cnt := rfl
end Go.Proofs.YtmggpockikcjjaaGreatDoor
