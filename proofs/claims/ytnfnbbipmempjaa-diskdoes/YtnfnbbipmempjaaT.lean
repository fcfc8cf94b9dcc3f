/-
  Two pairs of disks, apart from each other and from what came in (Four); a copy of a pair; one operation on the first pair; a crash of the second one.
-/
import Derived.Test.YtnfnbbipmempjaaS
import Derived.Test.YtnfnbbipmempjaaVo
namespace Go.Proofs.Ytnfnbbipmempjaa
open Go.RowKit

/-- A disk and the document's one, made since w0. -/
def Base (w0 w : World) (d r : Nat) (st : DS) : Prop := ∃ F, DR w d r F st st ∧ (∀ x, F x → w0.heap.size ≤ x) ∧ Below w0.heap.size w0 w
/-- .. and a copy of the disk. -/
def Half (w0 w : World) (d r c : Nat) (st : DS) : Prop := ∃ F G, DR w d r F st st ∧ DiskAt w c G st ∧ (∀ x, F x → G x → False) ∧ (∀ x, F x → w0.heap.size ≤ x) ∧ (∀ x, G x → w0.heap.size ≤ x) ∧ Below w0.heap.size w0 w
/-- .. and another pair. -/
def Four (w0 w : World) (d r c q : Nat) (st sc sq : DS) : Prop := ∃ F G, DR w d r F st st ∧ DR w c q G sc sq ∧ (∀ x, F x → G x → False) ∧ (∀ x, F x → w0.heap.size ≤ x) ∧ (∀ x, G x → w0.heap.size ≤ x) ∧ Below w0.heap.size w0 w
theorem DR.okR {w : World} {d r : Nat} {F : Nat → Prop} {sd sr : DS} (h : DR w d r F sd sr) : RefAt w r F sr := by
  obtain ⟨Fd, Fr, _, ⟨L, W, V, cL, cW, cV, d⟩, _, _, h5⟩ := h
  exact ⟨L, W, V, cL, cW, cV, d.blk, d.l1, d.ownL, d.ownW, d.ownV, d.ne, h5 _ d.F0, fun b hb => h5 _ (d.FL b hb), fun b hb => h5 _ (d.FW b hb), fun b hb => h5 _ (d.FV b hb), d.ok⟩
theorem Base.below {w0 w : World} {d r : Nat} {st : DS} (h : Base w0 w d r st) : Below w0.heap.size w0 w := by obtain ⟨_, _, _, h⟩ := h; exact h
theorem Four.below {w0 w : World} {d r c q : Nat} {st sc sq : DS} (h : Four w0 w d r c q st sc sq) : Below w0.heap.size w0 w := by obtain ⟨_, _, _, _, _, _, _, h⟩ := h; exact h
theorem Four.base {w0 w : World} {d r c q : Nat} {st sc sq : DS} (h : Four w0 w d r c q st sc sq) : Base w0 w d r st := by obtain ⟨F, _, h1, _, _, h4, _, h6⟩ := h; exact ⟨F, h1, h4, h6⟩
theorem Base.new (n : Nat) (w : World) (h1 : 1 ≤ n) (h2 : n ≤ 4096) : Calls Try.prog 8 #[.int .i64 n] w fun e w' => ∃ d, e = .returned (.tuple #[.pointer (some ⟨d, 0, none⟩), .int .i64 0]) ∧ Mine w w' d (newS n) := Mine.new w n h1 h2
theorem Base.rnew {w0 w : World} {d : Nat} {n : Nat} (h : Mine w0 w d (newS n)) (h1 : 1 ≤ n) (h2 : n ≤ 4096) : Calls Try.prog 9 #[.int .i64 n] w fun e w' => ∃ r, e = .returned (.tuple #[.pointer (some ⟨r, 0, none⟩), .int .i64 0]) ∧ Base w0 w' d r (newS n) := by
  obtain ⟨F, hd, hF, hb⟩ := h
  refine (rnew_any n w h1 h2).mono ?_
  rintro e w' ⟨r, rfl, hb', hr⟩
  refine ⟨r, rfl, fun x => F x ∨ w.heap.size ≤ x, ⟨fun x => F x ∧ x < w.heap.size, _, hd.within.kp (Kp.of_below hb' NoB) (fun _ _ h => h), hr, fun x p q => by have := p.2; have := q.1; omega, fun x hx => .inl hx.1, fun x hx => .inr hx.1⟩, fun x hx => ?_, hb.trans (hb'.mono hb.size)⟩
  rcases hx with hx | hx
  · exact hF x hx
  · exact Nat.le_trans hb.size hx
theorem Base.copyD {w0 w : World} {d r : Nat} {st : DS} (h : Base w0 w d r st) : Calls Try.prog 11 #[.pointer (some ⟨d, 0, none⟩)] w fun e w' => ∃ c, e = .returned (.pointer (some ⟨c, 0, none⟩)) ∧ Half w0 w' d r c st := by
  obtain ⟨F, hd, hF, hb⟩ := h
  have hd0 := hd.within
  obtain ⟨Fd, Fr, z1, _⟩ := hd
  refine (copy_disk d Fd st w z1).mono ?_
  rintro e w' ⟨c, rfl, hk, hc⟩
  exact ⟨c, rfl, _, _, hd0.kp hk (fun _ _ h => h), hc, fun x p q => (by have := p.2; omega : False), fun x hx => hF x hx.1, fun x hx => Nat.le_trans hb.size hx, hb.trans (hk.below hb.size (fun _ h => h.elim))⟩
theorem Half.copyR {w0 w : World} {d r c : Nat} {st : DS} (h : Half w0 w d r c st) (hn : 1 ≤ st.n) : Calls Try.prog 12 #[.pointer (some ⟨r, 0, none⟩)] w fun e w' => ∃ q, e = .returned (.pointer (some ⟨q, 0, none⟩)) ∧ Four w0 w' d r c q st st st := by
  obtain ⟨F, G, hd, hc, hx, hF, hG, hb⟩ := h
  have hd0 := hd.within
  have hc0 := hc.within
  refine (rcopy_disk r F st w hd.okR hn).mono ?_
  rintro e w' ⟨q, rfl, hk, hq⟩
  refine ⟨q, rfl, _, fun x => (G x ∧ x < w.heap.size) ∨ w.heap.size ≤ x, hd0.kp hk (fun _ _ h => h), ⟨_, _, hc0.kp hk (fun _ _ h => h), hq, fun x p q => (by have := p.2; omega : False), fun x hx => .inl hx, fun x hx => .inr hx⟩, fun x p q => ?_, fun x hx => hF x hx.1, fun x hx => ?_, hb.trans (hk.below hb.size (fun _ h => h.elim))⟩
  · rcases q with q | q
    · exact hx x p.1 q.1
    · have := p.2; omega
  · rcases hx with hx | hx
    · exact hG x hx.1
    · exact Nat.le_trans hb.size hx
theorem Four.step {w0 w : World} {d r c q : Nat} {st sc sq : DS} (h : Four w0 w d r c q st sc sq) (x : OpV) (ok : OpOk w0 x) (hc : st.cnt < 1000) :
    Calls Try.prog 13 #[.pointer (some ⟨d, 0, none⟩), .pointer (some ⟨r, 0, none⟩), .agg #[.int .i64 x.K, .int .i64 x.i, .string ⟨x.s.toArray⟩, .slice x.B x.ks.length x.c]] w (fun e w' => e = .returned (.int .i64 1) ∧ ∃ st', Four w0 w' d r c q st' sc sq ∧ st'.n = st.n ∧ st'.cnt ≤ st.cnt + 1) := by
  obtain ⟨F, G, hd, hcq, hx, hF, hG, hb⟩ := h
  have hlt : 0 < x.ks.length → ∀ b, rowB x.B = some b → b < w0.heap.size := fun h0 b hb2 => by
    obtain ⟨b2, o, e, hcell⟩ := ok.rd (by rw [bcells_len]; exact h0)
    obtain ⟨v, hv⟩ : ∃ v, x.ks[0]? = some v := ⟨_, List.getElem?_eq_getElem h0⟩
    have := World.block_lt_of_cell? _ _ (hcell 0 _ (bcells_at hv))
    rw [e] at hb2
    simp [rowB] at hb2
    subst hb2
    exact this
  have hbs := hb.size
  refine (do_any d r F st w hd x.K x.i x.s x.B x.ks x.c ok.i1 ok.i2 ok.s (ok.rd.below hb) ok.ks (fun h0 b hb2 => ⟨fun hf => ?_, ?_⟩) hc).mono ?_
  · have := hlt h0 b hb2; have := hF b hf; omega
  · have := hlt h0 b hb2; omega
  · rintro e w' ⟨rfl, st', ⟨hk, _, F', hd', hF'⟩, hn', hc'⟩
    refine ⟨rfl, st', ⟨F', fun x => G x ∧ x < w.heap.size, hd', hcq.within.kp hk (fun y hy hf => hx y hf hy.1), fun y p q => ?_, fun y hy => ?_, fun y hy => hG y hy.1, hb.trans (hk.below hb.size hF)⟩, hn', hc'⟩
    · rcases (hF' y p).1 with z | z
      · exact hx y z q.1
      · have := q.2; omega
    · rcases (hF' y hy).1 with z | z
      · exact hF y z
      · omega
theorem Four.sameD {w0 w : World} {d r c q : Nat} {st sc sq : DS} (h : Four w0 w d r c q st sc sq) : Calls Try.prog 14 #[.pointer (some ⟨d, 0, none⟩), .pointer (some ⟨r, 0, none⟩)] w fun e w' => e = .returned (.int .i64 1) ∧ w' = w := by
  obtain ⟨F, _, h1, _⟩ := h
  exact same_any d r F st w h1
theorem Four.sameC {w0 w : World} {d r c q : Nat} {st sc : DS} (h : Four w0 w d r c q st sc sc) : Calls Try.prog 14 #[.pointer (some ⟨c, 0, none⟩), .pointer (some ⟨q, 0, none⟩)] w fun e w' => e = .returned (.int .i64 1) ∧ w' = w := by
  obtain ⟨_, G, _, h2, _⟩ := h
  exact same_any c q G sc w h2
theorem Four.len {w0 w : World} {d r c q : Nat} {st sc sq : DS} (h : Four w0 w d r c q st sc sq) : ∃ L cL, w.cell? ⟨r, 0, none⟩ = some (.slice L st.n cL) := by
  obtain ⟨F, _, h1, _⟩ := h
  exact h1.okR.cells.1
def tft : List Bool := [true, false, true]
theorem rd_tft (w : World) : RdB (w.alloc (.cells #[.bool true, .bool false, .bool true] 4)) (some ⟨w.heap.size, 0, none⟩) tft := fun _ => ⟨w.heap.size, 0, rfl, fun i x hi => by rw [Nat.zero_add, cell_of (blk_new _ _) i]; simpa [bcells, tft] using hi⟩
theorem Four.crashC {w0 w : World} {d r c q : Nat} {st sc sq : DS} (h : Four w0 w d r c q st sc sq) :
    Calls Try.prog 15 #[.pointer (some ⟨c, 0, none⟩), .slice (some ⟨w.heap.size, 0, none⟩) 3 3] (w.alloc (.cells #[.bool true, .bool false, .bool true] 4)) (fun e w' => e = .returned (.tuple #[]) ∧ Four w0 w' d r c q st (crashS sc tft) sq) := by
  obtain ⟨F, G, hd, hcq, hx, hF, hG, hb⟩ := h
  refine ((DRP.start hcq (.cells #[.bool true, .bool false, .bool true] 4)).crashD _ 3 tft (rd_tft w) (by decide)).mono ?_
  rintro e w' ⟨rfl, ⟨hk, _, G', hd', hG'⟩, _⟩
  have hbs := hb.size
  refine ⟨rfl, fun x => F x ∧ x < w.heap.size, G', hd.within.kp hk (fun y hy hf => hx y hy.1 hf), hd', fun y p q => ?_, fun y hy => hF y hy.1, fun y hy => ?_, hb.trans (hk.below hb.size hG)⟩
  · rcases (hG' y q).1 with z | z
    · exact hx y p.1 z
    · have := p.2; omega
  · rcases (hG' y hy).1 with z | z
    · exact hG y z
    · omega
theorem Four.crashQ {w0 w : World} {d r c q : Nat} {st sc sq : DS} (h : Four w0 w d r c q st sc sq) :
    Calls Try.prog 16 #[.pointer (some ⟨q, 0, none⟩), .slice (some ⟨w.heap.size, 0, none⟩) 3 3] (w.alloc (.cells #[.bool true, .bool false, .bool true] 4)) (fun e w' => e = .returned (.tuple #[]) ∧ Four w0 w' d r c q st sc (crashS sq tft)) := by
  obtain ⟨F, G, hd, hcq, hx, hF, hG, hb⟩ := h
  have hbs := hb.size
  have hcq2 := hcq.within
  obtain ⟨Gc, Gq, z1, z2, z3, z4, z5⟩ := hcq2
  have ka := (kno w).alloc (.cells #[.bool true, .bool false, .bool true] 4)
  refine (rcrash_disk (some ⟨w.heap.size, 0, none⟩) 3 q tft Gq sq _ (z2.kp ka (fun _ _ h => h)) (rd_tft w) (by decide) (fun _ b hb2 hf => ?_)).mono ?_
  · simp [rowB] at hb2
    subst hb2
    have := (z5 _ hf).2
    omega
  · rintro e w' ⟨rfl, hk, Gq', hq', hG'⟩
    have hk2 : Kp Gq w w' := (ka.mono (fun _ h => h.elim)).trans hk (fun _ _ h => h)
    have hs2 : (w.alloc (.cells #[.bool true, .bool false, .bool true] 4)).heap.size = w.heap.size + 1 := by simp
    refine ⟨rfl, fun x => F x ∧ x < w.heap.size, fun x => Gc x ∨ Gq' x, hd.within.kp hk2 (fun y hy hf => hx y hy.1 (z5 y hf).1), ⟨Gc, Gq', z1.kp hk2 (fun y hy hf => z3 y hy hf), hq', fun y p q => ?_, fun y hy => .inl hy, fun y hy => .inr hy⟩, fun y p q => ?_, fun y hy => hF y hy.1, fun y hy => ?_, hb.trans (hk2.below hb.size (fun y hy => hG y (z5 y hy).1))⟩
    · rcases hG' y q with z | z
      · exact z3 y p z
      · have := (z4 y p).2; omega
    · rcases q with q | q
      · exact hx y p.1 (z4 y q).1
      · rcases hG' y q with z | z
        · exact hx y p.1 (z5 y z).1
        · have := p.2; omega
    · rcases hy with hy | hy
      · exact hG y (z4 y hy).1
      · rcases hG' y hy with z | z
        · exact hG y (z5 y z).1
        · omega
end Go.Proofs.Ytnfnbbipmempjaa
