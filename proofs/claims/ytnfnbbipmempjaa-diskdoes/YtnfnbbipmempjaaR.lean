/-
  A disk and the document's disk side by side (DR); the contract of Same.
-/
import Derived.Test.YtnfnbbipmempjaaQ
namespace Go.Proofs.Ytnfnbbipmempjaa
open Go.RowKit

/-- A disk and a disk of the document's, apart from each other, within the blocks F. -/
def DR (w : World) (d r : Nat) (F : Nat → Prop) (sd sr : DS) : Prop := ∃ Fd Fr, DiskAt w d Fd sd ∧ RefAt w r Fr sr ∧ (∀ x, Fd x → Fr x → False) ∧ (∀ x, Fd x → F x) ∧ ∀ x, Fr x → F x
theorem DR.kp {w w' : World} {d r : Nat} {F G : Nat → Prop} {sd sr : DS} (h : DR w d r F sd sr) (hk : Kp G w w') (hf : ∀ x, F x → ¬ G x) : DR w' d r F sd sr := by
  obtain ⟨Fd, Fr, h1, h2, h3, h4, h5⟩ := h
  exact ⟨Fd, Fr, h1.kp hk (fun x hx => hf x (h4 x hx)), h2.kp hk (fun x hx => hf x (h5 x hx)), h3, h4, h5⟩
theorem DR.within {w : World} {d r : Nat} {F : Nat → Prop} {sd sr : DS} (h : DR w d r F sd sr) : DR w d r (fun x => F x ∧ x < w.heap.size) sd sr := by
  obtain ⟨Fd, Fr, h1, h2, h3, h4, h5⟩ := h
  exact ⟨fun x => Fd x ∧ x < w.heap.size, fun x => Fr x ∧ x < w.heap.size, h1.within, h2.within, fun x p q => h3 x p.1 q.1, fun x hx => ⟨h4 x hx.1, hx.2⟩, fun x hx => ⟨h5 x hx.1, hx.2⟩⟩
theorem DR.mono {w : World} {d r : Nat} {F G : Nat → Prop} {sd sr : DS} (h : DR w d r F sd sr) (hf : ∀ x, F x → G x) : DR w d r G sd sr := by
  obtain ⟨Fd, Fr, h1, h2, h3, h4, h5⟩ := h
  exact ⟨Fd, Fr, h1, h2, h3, fun x hx => hf x (h4 x hx), fun x hx => hf x (h5 x hx)⟩
theorem DR.okD {w : World} {d r : Nat} {F : Nat → Prop} {sd sr : DS} (h : DR w d r F sd sr) : Ok sd := by obtain ⟨_, _, h, _⟩ := h; exact h.ok
/-- Since w0, when they lay within F0; beside the blocks G. -/
def DRP (G : Nat → Prop) (w0 w : World) (F0 : Nat → Prop) (d r : Nat) (sd sr : DS) : Prop := Kp F0 w0 w ∧ (∀ x, G x → w0.heap.size ≤ x ∧ x < w.heap.size) ∧ ∃ F, DR w d r F sd sr ∧ ∀ x, F x → (F0 x ∨ w0.heap.size ≤ x) ∧ ¬ G x
theorem DRP.stepD {G : Nat → Prop} {w0 w : World} {F0 : Nat → Prop} {d r f : Nat} {sd sr sd' : DS} {v : Value} {args : Array Value} (h : DRP G w0 w F0 d r sd sr) (C : ∀ F, DiskAt w d F sd → Calls Try.prog f args w (DPost w d F sd' v)) :
    Calls Try.prog f args w (fun e w' => e = .returned v ∧ DRP G w0 w' F0 d r sd' sr ∧ ∀ x, G x → w'.heap[x]? = w.heap[x]?) := by
  obtain ⟨hk, hG, F, ⟨Fd, Fr, h1, h2, h3, h4, h5⟩, hF⟩ := h
  refine (C Fd h1).mono ?_
  rintro e w' ⟨rfl, hk', F', hd', hF'⟩
  have s0 := hk.size
  have s1 := hk'.size
  refine ⟨rfl, ⟨hk.trans hk' (fun x hx hd => by rcases (hF x (h4 x hd)).1 with q | q; exact q; omega), fun x hx => ⟨(hG x hx).1, by have := (hG x hx).2; omega⟩, fun x => (F x ∨ w.heap.size ≤ x), ⟨F', fun x => Fr x ∧ x < w.heap.size, hd', h2.within.kp hk' (fun x hx q => h3 x q hx.1), fun x p q => ?_, fun x hx => ?_, fun x hx => .inl (h5 x hx.1)⟩, fun x hx => ?_⟩, fun x hx => hk'.block x (hG x hx).2 (fun hf => (hF x (h4 x hf)).2 hx)⟩
  · rcases hF' x p with z | z
    · exact h3 x z q.1
    · have := q.2; omega
  · rcases hF' x hx with z | z
    · exact .inl (h4 x z)
    · exact .inr z
  · rcases hx with hx | hx
    · exact hF x hx
    · exact ⟨.inr (by omega), fun hg => by have := (hG x hg).2; omega⟩
theorem DRP.stepR {G : Nat → Prop} {w0 w : World} {F0 : Nat → Prop} {d r f : Nat} {sd sr sr' : DS} {v : Value} {args : Array Value} (h : DRP G w0 w F0 d r sd sr) (C : ∀ F, RefAt w r F sr → (∀ x, F x → F0 x ∨ w0.heap.size ≤ x) → Calls Try.prog f args w (RPost w r F sr' v)) :
    Calls Try.prog f args w (fun e w' => e = .returned v ∧ DRP G w0 w' F0 d r sd sr' ∧ ∀ x, G x → w'.heap[x]? = w.heap[x]?) := by
  obtain ⟨hk, hG, F, ⟨Fd, Fr, h1, h2, h3, h4, h5⟩, hF⟩ := h
  refine (C Fr h2 (fun x hx => (hF x (h5 x hx)).1)).mono ?_
  rintro e w' ⟨rfl, hk', F', hd', hF'⟩
  have s0 := hk.size
  have s1 := hk'.size
  refine ⟨rfl, ⟨hk.trans hk' (fun x hx hd => by rcases (hF x (h5 x hd)).1 with q | q; exact q; omega), fun x hx => ⟨(hG x hx).1, by have := (hG x hx).2; omega⟩, fun x => (F x ∨ w.heap.size ≤ x), ⟨fun x => Fd x ∧ x < w.heap.size, F', h1.within.kp hk' (fun x hx q => h3 x hx.1 q), hd', fun x p q => ?_, fun x hx => .inl (h4 x hx.1), fun x hx => ?_⟩, fun x hx => ?_⟩, fun x hx => hk'.block x (hG x hx).2 (fun hf => (hF x (h5 x hf)).2 hx)⟩
  · rcases hF' x q with z | z
    · exact h3 x p.1 z
    · have := p.2; omega
  · rcases hF' x hx with z | z
    · exact .inl (h5 x z)
    · exact .inr z
  · rcases hx with hx | hx
    · exact hF x hx
    · exact ⟨.inr (by omega), fun hg => by have := (hG x hg).2; omega⟩
theorem DRP.drew {G : Nat → Prop} {w0 w : World} {F0 : Nat → Prop} {d r : Nat} {sd sr : DS} (h : DRP G w0 w F0 d r sd sr) : DRP G w0 w.drew F0 d r sd sr := by
  obtain ⟨hk, hG, F, h1, hF⟩ := h
  exact ⟨hk.drew, hG, F, h1.kp (kd w) (fun _ _ h => h), hF⟩
theorem DRP.drewN {G : Nat → Prop} {w0 w : World} {F0 : Nat → Prop} {d r : Nat} {sd sr : DS} (h : DRP G w0 w F0 d r sd sr) (n : Nat) : DRP G w0 (w.drewN n) F0 d r sd sr := by
  obtain ⟨hk, hG, F, h1, hF⟩ := h
  exact ⟨hk.drewN n, hG, F, h1.kp ((kno w).drewN n) (fun _ _ h => h), hF⟩
theorem DRP.start {w : World} {F0 : Nat → Prop} {d r : Nat} {sd sr : DS} (h : DR w d r F0 sd sr) (o : Obj) : DRP (· = w.heap.size) w (w.alloc o) F0 d r sd sr :=
  ⟨(Kp.refl F0 w).alloc o, fun x hx => by subst hx; exact ⟨Nat.le_refl _, by simp⟩, _, h.within.kp ((kno w).alloc o) (fun _ _ h => h), fun x hx => ⟨.inl hx.1, by have := hx.2; omega⟩⟩
theorem DRP.readD {G : Nat → Prop} {w0 w : World} {F0 : Nat → Prop} {d r : Nat} {sd sr : DS} (h : DRP G w0 w F0 d r sd sr) (i0 : Int) :
    Calls Try.prog 21 #[.pointer (some ⟨d, 0, none⟩), .int .i64 i0] w fun e w' => e = .returned (.tuple #[.string ⟨(readS sd i0).toArray⟩, .int .i64 (readE sd i0)]) ∧ w' = w := by
  obtain ⟨_, _, F, ⟨Fd, Fr, h1, _⟩, _⟩ := h
  exact read_any i0 d Fd sd w h1
theorem DRP.readR {G : Nat → Prop} {w0 w : World} {F0 : Nat → Prop} {d r : Nat} {sd sr : DS} (h : DRP G w0 w F0 d r sd sr) (i0 : Int) :
    Calls Try.prog 28 #[.pointer (some ⟨r, 0, none⟩), .int .i64 i0] w fun e w' => e = .returned (.tuple #[.string ⟨(readS sr i0).toArray⟩, .int .i64 (readE sr i0)]) ∧ w' = w := by
  obtain ⟨_, _, F, ⟨Fd, Fr, _, h2, _⟩, _⟩ := h
  exact rread_any i0 r Fr sr w h2
theorem RefAt.cells {w : World} {s : Nat} {F : Nat → Prop} {st : DS} (h : RefAt w s F st) : (∃ L cL, w.cell? ⟨s, 0, none⟩ = some (.slice L st.n cL)) ∧ ∃ W cW, w.cell? ⟨s, 1, none⟩ = some (.slice W st.pend.length cW) := by
  obtain ⟨L, W, V, cL, cW, cV, d⟩ := h
  obtain ⟨⟨c0, c1, _, _⟩, _⟩ := rcell d.blk
  exact ⟨⟨L, cL, c0⟩, W, cW, c1⟩

set_option maxRecDepth 100000 in
set_option maxHeartbeats 1000000 in
theorem same_any (d r : Nat) (F : Nat → Prop) (st : DS) (w : World) (h : DR w d r F st st) :
    Calls Try.prog 14 #[.pointer (some ⟨d, 0, none⟩), .pointer (some ⟨r, 0, none⟩)] w fun e w' => e = .returned (.int .i64 1) ∧ w' = w := by
  have hn := h.okD.n
  obtain ⟨Fd, Fr, h1, h2, -⟩ := h
  obtain ⟨⟨L, cL, c0⟩, -⟩ := h2.cells
  have H1 := Lib.hid h1
  have H2 := Lib.hid h2
  clear h1 h2
  go_enter Try.func14, Try.ntmps14
  go_wp2_with fail
  go_loopw [5] (fun vi wr => ∃ k : Nat, k ≤ st.n ∧ vi = .int .i64 k ∧ wr = w) (fun vi _ => st.n - (intOf vi).toNat)
  case atStart => exact ⟨0, Nat.zero_le _, rfl, rfl⟩
  case round =>
    obtain ⟨k, hk, rfl, rfl⟩ := hrel
    by_cases hlt : k < st.n
    · have C1 := Lib.hid (read_any (k : Int) d Fd st wr H1.out)
      have C2 := Lib.hid (rread_any (k : Int) r Fr st wr H2.out)
      have e1 : readE st (k : Int) = 0 := by unfold readE; rw [has_nat rfl hlt]; rfl
      rw [e1] at C1 C2
      obtain ⟨T, hT⟩ : ∃ T, readS st (k : Int) = T := ⟨_, rfl⟩
      rw [hT] at C1 C2
      clear hT e1
      have i1 : (k : Int) < (st.n : Int) := by omega
      go_wp2_with fail
      refine C1.out.mono ?_
      rintro e w1 ⟨rfl, rfl⟩
      clear C1
      go_wp2_with fail
      refine C2.out.mono ?_
      rintro e w2 ⟨rfl, rfl⟩
      clear C2
      go_wp2_with fail
      go_roundw
      case rel => exact ⟨k + 1, by omega, by go_num, by trivial⟩
      case measure => simp [intOf]; omega
    · obtain rfl : k = st.n := by omega
      go_wp2
      go_ret
      exact ⟨rfl, rfl⟩
end Go.Proofs.Ytnfnbbipmempjaa
