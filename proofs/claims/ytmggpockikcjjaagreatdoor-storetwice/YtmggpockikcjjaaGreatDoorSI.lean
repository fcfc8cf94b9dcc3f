/-
  Words for the laws: lists apart from a store, a store since a world; the contract of May.
-/
import Derived.Test.YtmggpockikcjjaaGreatDoorSF
import Derived.Test.YtmggpockikcjjaaGreatDoorSH
namespace Go.Proofs.YtmggpockikcjjaaGreatDoor
open Go.RowKit
open Dsk (DS Tx Wt Kp DiskAt NoB Ok newS crashS limitS)

theorem adj_sorted : ∀ (fs : List Fl), (∀ i f g, fs[i]? = some f → fs[i + 1]? = some g → Op.bytesLess f.1 g.1 = true) → Sorted fs
  | [], _ => Sorted.nil
  | [x], _ => by unfold Sorted; simp
  | x :: y :: r, h => by
    have ih := adj_sorted (y :: r) (fun i f g h1 h2 => h (i + 1) f g (by simpa using h1) (by simpa using h2))
    have hxy := h 0 x y rfl rfl
    refine List.pairwise_cons.2 ⟨fun g hg => ?_, ih⟩
    rcases List.mem_cons.1 hg with rfl | hg
    · exact hxy
    · exact bl_trans hxy (ih.head g hg)
theorem right_good {fs : List Fl} (h : rightB fs = true) : Good fs := by
  unfold rightB at h
  rw [Bool.and_eq_true, decide_eq_true_eq, List.all_eq_true] at h
  obtain ⟨h1, h2⟩ := h
  have ok : ∀ i, i < fs.length → okAt fs i = true := fun i hi => h2 i (List.mem_range.2 hi)
  have wr : ∀ i f, fs[i]? = some f → wrE f = 0 := fun i f hf => by
    have hi : i < fs.length := (List.getElem?_eq_some_iff.1 hf).1
    have := ok i hi
    unfold okAt at this
    rw [Bool.and_eq_true] at this
    have e := this.1
    rw [show fs.getD i ([], []) = f by simp [List.getD, hf]] at e
    simpa using e
  refine ⟨adj_sorted fs (fun i f g hf hg => ?_), h1, fun f hf => ?_⟩
  · have hi : i + 1 < fs.length := (List.getElem?_eq_some_iff.1 hg).1
    have := ok (i + 1) hi
    unfold okAt at this
    rw [Bool.and_eq_true] at this
    have e := this.2
    rw [show fs.getD (i + 1) ([], []) = g by simp [List.getD, hg], show fs.getD (i + 1 - 1) ([], []) = f by simp [List.getD, hf]] at e
    simpa using e
  · obtain ⟨i, hi⟩ := List.getElem?_of_mem hf
    exact wr i f hi
def mayE (new : List Fl) (n : Nat) : Int := if rightB new = false then 5 else if 64 * halfN n < (filesL new).length then 7 else 0
set_option maxHeartbeats 1000000 in
theorem may_any (A : Option Addr) (c n : Nat) (new : List Fl) (w : World) (hr : Rd w A new) (hlen : new.length ≤ 100000) (hfit : Fit new) (n4 : 4 ≤ n) (n64 : n ≤ 64) :
    Calls Tryz.prog 14 #[.slice A new.length c, .int .i64 n] w fun e w' => e = .returned (.int .i64 (mayE new n)) ∧ Below w.heap.size w w' := by
  have C := Lib.hid (rright_any A c new w hr hlen hfit)
  cases hx : rightB new
  · rw [show mayE new n = 5 by unfold mayE; rw [if_pos hx]]
    rw [hx] at C
    clear hx
    go_enter Tryz.func14, Tryz.ntmps14
    go_wp2_with fail
    refine C.out.mono ?_
    rintro e w1 ⟨rfl, m, rfl⟩
    go_wp2
    go_ret
    exact ⟨rfl, drewN_below _ _⟩
  · have hg := right_good hx
    rw [hx] at C
    have hl : new.length ≤ 32 := hg.2.1
    have C2 := Lib.hid (fun (w : World) (h : Rd w A new) => rfiles_any A c new w h (Lib.hid (good_mild hg)) (by omega))
    have hbl : (filesL new).length ≤ 199999 := by have := good_bytes _ hg.2.2; omega
    have e1 : mayE new n = if 64 * halfN n < (filesL new).length then 7 else 0 := by unfold mayE; rw [if_neg (by simp [hx])]
    rw [e1]
    have C3 := Lib.hid (fun (w : World) => rroom_any n w)
    rw [room_is n4 n64] at C3
    have HR := Lib.hid hr
    generalize filesL new = text at *
    clear hg hx e1 hr
    by_cases h : 64 * halfN n < text.length
    · rw [if_pos h]
      have hi : ((64 * halfN n : Nat) : Int) < (text.length : Int) := by omega
      go_enter Tryz.func14, Tryz.ntmps14
      go_wp2_with fail
      refine C.out.mono ?_
      rintro e w1 ⟨rfl, m, rfl⟩
      have hb := Lib.hid (drewN_below w m)
      have HR1 := Lib.hid (HR.out.drewN m)
      generalize w.drewN m = w1 at *
      clear C
      go_wp2_with fail
      refine (C2.out w1 HR1.out).mono ?_
      rintro e w2 ⟨rfl, hb2⟩
      have HB2 := Lib.hid (bch hb.out hb2)
      clear hb2
      go_wp2_with fail
      refine (C3.out w2).mono ?_
      rintro e w2 ⟨rfl, rfl⟩
      go_wp2
      go_ret
      exact ⟨rfl, HB2.out⟩
    · rw [if_neg h]
      have hi : ¬ ((64 * halfN n : Nat) : Int) < (text.length : Int) := by omega
      go_enter Tryz.func14, Tryz.ntmps14
      go_wp2_with fail
      refine C.out.mono ?_
      rintro e w1 ⟨rfl, m, rfl⟩
      have hb := Lib.hid (drewN_below w m)
      have HR1 := Lib.hid (HR.out.drewN m)
      generalize w.drewN m = w1 at *
      clear C
      go_wp2_with fail
      refine (C2.out w1 HR1.out).mono ?_
      rintro e w2 ⟨rfl, hb2⟩
      have HB2 := Lib.hid (bch hb.out hb2)
      clear hb2
      go_wp2_with fail
      refine (C3.out w2).mono ?_
      rintro e w2 ⟨rfl, rfl⟩
      go_wp2
      go_ret
      exact ⟨rfl, HB2.out⟩

/-! ### a store since a world -/
theorem SAt.dpost {w w' : World} {q s : Nat} {F F' : Nat → Prop} {n : Nat} {fs : List Fl} {st st' : DS} (h : SAt w q s F n fs st) (hk : Kp F w w') (hd : DiskAt w' s F' st') (hF : ∀ x, F' x → F x ∨ w.heap.size ≤ x) (T : 6 ≤ w.heap.size) (e1 : st'.n = st.n) (e2 : st'.pend = []) (e3 : st'.base = st.base) : SAt w' q s F' n fs st' := by
  obtain ⟨hd0, hnq, hlo, hqlo, n4, n64, hn, hp, a, k, hH, bq⟩ := h
  refine ⟨hd, not_new hnq (Dsk.lt_of_blk bq) hF, fun x hx => ?_, hqlo, n4, n64, e1.trans hn, e2, a, k, by rw [e3]; exact hH, hk.keep bq hnq⟩
  rcases hF x hx with p | p
  · exact hlo x p
  · omega
theorem SAt.qlt {w : World} {q s : Nat} {F : Nat → Prop} {n : Nat} {fs : List Fl} {st : DS} (h : SAt w q s F n fs st) : q < w.heap.size := by obtain ⟨_, _, _, bq⟩ := h.is; exact Dsk.lt_of_blk bq
theorem SAt.good {w : World} {q s : Nat} {F : Nat → Prop} {n : Nat} {fs : List Fl} {st : DS} (h : SAt w q s F n fs st) : Good fs := by obtain ⟨_, _, hH, _⟩ := h.is; exact hH.good
theorem SAt.clean {w : World} {q s : Nat} {F : Nat → Prop} {n : Nat} {fs : List Fl} {st : DS} (h : SAt w q s F n fs st) : Clean n fs st := by obtain ⟨a, k, hH, _⟩ := h.is; exact ⟨h.num, h.pend, a, k, hH⟩
theorem SAt.dat {w : World} {q s : Nat} {F : Nat → Prop} {n : Nat} {fs : List Fl} {st : DS} (h : SAt w q s F n fs st) : DAt w s F n fs st := ⟨h.disk, h.lo, h.n4, h.n64, h.clean⟩
/-- A list that is read, apart from a store and its disk. -/
def RdA (w : World) (F : Nat → Prop) (q : Nat) (A : Option Addr) (fs : List Fl) : Prop := Rd w A fs ∧ (0 < fs.length → ∀ b o, A = some ⟨b, o, none⟩ → ¬ F b ∧ b ≠ q)
theorem Rd.kp {F : Nat → Prop} {w w' : World} {A : Option Addr} {fs : List Fl} (h : Rd w A fs) (hk : Kp F w w') (hf : 0 < fs.length → ∀ b o, A = some ⟨b, o, none⟩ → ¬ F b) : Rd w' A fs := fun h0 => by
  obtain ⟨b, o, e, hc⟩ := h h0
  exact ⟨b, o, e, fun i f hi => ⟨cell_kp (hc i f hi).1 hk (hf h0 b o e), cell_kp (hc i f hi).2 hk (hf h0 b o e)⟩⟩
theorem RdA.step {w w' : World} {F F' : Nat → Prop} {q q' : Nat} {A : Option Addr} {fs : List Fl} (h : RdA w F q A fs) (hk : Kp (fun x => F x ∨ x = q) w w') (hF : ∀ x, F' x → F x ∨ w.heap.size ≤ x) (hq : q' = q ∨ w.heap.size ≤ q') : RdA w' F' q' A fs := by
  refine ⟨h.1.kp hk (fun h0 b o e hx => ?_), fun h0 b o e => ?_⟩
  · rcases hx with hx | hx
    · exact (h.2 h0 b o e).1 hx
    · exact (h.2 h0 b o e).2 hx
  · obtain ⟨b', o', e', hc⟩ := h.1 h0
    obtain ⟨rfl, rfl⟩ : b = b' ∧ o = o' := by rw [e] at e'; simp at e'; exact e'
    obtain ⟨f, hf⟩ : ∃ f, fs[0]? = some f := ⟨_, List.getElem?_eq_getElem h0⟩
    have hlt : b < w.heap.size := World.block_lt_of_cell? _ _ (hc 0 f hf).1
    obtain ⟨n1, n2⟩ := h.2 h0 b o e
    refine ⟨not_new n1 hlt hF, fun e => ?_⟩
    rcases hq with hq | hq <;> omega
theorem RdA.below {w w' : World} {F : Nat → Prop} {q : Nat} {A : Option Addr} {fs : List Fl} (h : RdA w F q A fs) (hb : Below w.heap.size w w') : RdA w' F q A fs := ⟨h.1.below hb, h.2⟩
theorem RdA.within {w : World} {F G : Nat → Prop} {q : Nat} {A : Option Addr} {fs : List Fl} (h : RdA w F q A fs) (hG : ∀ x, G x → F x) : RdA w G q A fs := ⟨h.1, fun h0 b o e => ⟨fun x => (h.2 h0 b o e).1 (hG b x), (h.2 h0 b o e).2⟩⟩
theorem RdA.empty (w : World) (F : Nat → Prop) (q : Nat) (A : Option Addr) : RdA w F q A [] := ⟨Rd.empty w A, fun h => absurd h (by simp)⟩
theorem Rd.ahead {w : World} {B : Nat} {A : Option Addr} {fs : List Fl} (h : Rd w A fs) (hB : w.heap.size ≤ B) {F : Nat → Prop} {q : Nat} (hF : ∀ x, F x → B ≤ x) (hq : B ≤ q) : 0 < fs.length → ∀ b o, A = some ⟨b, o, none⟩ → ¬ F b ∧ b ≠ q := fun h0 b o e => by
  obtain ⟨b', o', e', hc⟩ := h h0
  obtain ⟨rfl, rfl⟩ : b = b' ∧ o = o' := by rw [e] at e'; simp at e'; exact e'
  obtain ⟨f, hf⟩ : ∃ f, fs[0]? = some f := ⟨_, List.getElem?_eq_getElem h0⟩
  have hlt : b < w.heap.size := World.block_lt_of_cell? _ _ (hc 0 f hf).1
  exact ⟨fun x => by have := hF b x; omega, by omega⟩
theorem Own.apart {w w0 : World} {A : Option Addr} {c : Nat} {fs : List Fl} (h : Own w w0.heap.size A c fs) {F : Nat → Prop} {q : Nat} (hF : ∀ x, F x → x < w0.heap.size) (hq : q < w0.heap.size) : RdA w F q A fs := by
  refine ⟨h.rd, fun h0 b o e => ?_⟩
  subst e
  rcases h.2 with ⟨hv, h1⟩ | ⟨g, cap, cur, hv, hg, _⟩
  · omega
  · simp only [Value.slice.injEq, Option.some.injEq, Addr.mk.injEq] at hv
    obtain ⟨⟨rfl, _⟩, _⟩ := hv
    exact ⟨fun x => by have := hF _ x; omega, by omega⟩
end Go.Proofs.YtmggpockikcjjaaGreatDoor
