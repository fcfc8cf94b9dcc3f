/-
  Contracts of slices.Concat and files.join: a new list of the call's own; old memory stays.
-/
import Derived.Test.YtdaekfigpkogbaaG
namespace Go.Proofs.Ytdaekfigpkogbaa
open Go.RowKit

/-- A list of slices: where each lies, its capacity, what it reads as. -/
abbrev Pc := Option Addr × Nat × List Fl
def cat (ps : List Pc) : List Fl := ps.flatMap fun p => p.2.2
def Pcs (w : World) (b : Nat) (ps : List Pc) : Prop := ∀ i p, ps[i]? = some p → w.cell? ⟨b, i, none⟩ = some (.slice p.1 p.2.2.length p.2.1) ∧ Rd w p.1 p.2.2
theorem Pcs.below {w w' : World} {b : Nat} {ps : List Pc} (h : Pcs w b ps) (hb : Below w.heap.size w w') : Pcs w' b ps := fun i p hi => ⟨cell_below hb (h i p hi).1, (h i p hi).2.below hb⟩
theorem cat_step {ps : List Pc} {k : Nat} {p : Pc} (h : ps[k]? = some p) : cat (ps.take (k + 1)) = cat (ps.take k) ++ p.2.2 := by
  rw [List.take_add_one, h]; simp [cat]
theorem cat_le (ps : List Pc) (k : Nat) : (cat (ps.take k)).length ≤ (cat ps).length := by
  have : (cat (ps.take k ++ ps.drop k)).length = (cat (ps.take k)).length + (cat (ps.drop k)).length := by unfold cat; rw [List.flatMap_append, List.length_append]
  rw [List.take_append_drop] at this
  omega
theorem cat_all {ps : List Pc} {k : Nat} (h : ps.length ≤ k) : cat (ps.take k) = cat ps := by rw [List.take_of_length_le h]

set_option maxRecDepth 100000 in
set_option maxHeartbeats 2000000 in
theorem concat_any (b c : Nat) (ps : List Pc) (w : World) (hp : Pcs w b ps) (hn : ps.length ≤ 100) (hc : (cat ps).length ≤ 100000) :
    Calls Try.prog 33 #[.slice (some ⟨b, 0, none⟩) ps.length c] w (Res w (cat ps)) := by
  go_enter Try.func33, Try.ntmps33
  go_wp2
  go_loop [3, 11] (fun s i => ∃ k m : Nat, k ≤ ps.length ∧ i = .int .i64 k ∧ s = .int .i64 m ∧ m = (cat (ps.take k)).length) (fun _ i => ps.length - (intOf i).toNat)
  case atStart => exact ⟨0, 0, Nat.zero_le _, rfl, rfl, rfl⟩
  case round =>
    obtain ⟨k, m, hk, rfl, rfl, hm⟩ := hrel
    have hm1 : m ≤ 100000 := by have := cat_le ps k; omega
    have HM := Lib.hid hm
    clear hm
    by_cases hlt : k < ps.length
    · obtain ⟨p, hpk⟩ : ∃ p, ps[k]? = some p := ⟨_, List.getElem?_eq_getElem hlt⟩
      have c1 := (hp k p hpk).1
      have hst := cat_step hpk
      have hle : m + p.2.2.length ≤ 100000 := by
        have := cat_le ps (k + 1)
        rw [hst, List.length_append, ← HM.out] at this
        omega
      have HST := Lib.hid hst
      clear hst hpk
      have HP := Lib.hid hp
      clear hp
      go_wp2
      go_round
      case rel => exact ⟨k + 1, m + p.2.2.length, by omega, by go_num, by go_num, by rw [HST.out, List.length_append, HM.out]⟩
      case measure => simp [intOf]; omega
    · have hall := HM.out
      rw [cat_all (by omega)] at hall
      have HA := Lib.hid hall
      have HP := Lib.hid hp
      clear hall hp
      go_wp2_with fail
      refine (grow_any m _ (by omega)).mono ?_
      rintro e w1 ⟨A0, c0, rfl, hown0, hb0⟩
      go_wp2_with fail
      go_loopw [6, 27] (fun v i wr => ∃ (k : Nat) (A : Option Addr) (c : Nat) (xs : List Fl), k ≤ ps.length ∧ i = .int .i64 k ∧ v = .slice A xs.length c ∧ xs = cat (ps.take k) ∧ Own wr w.heap.size A c xs ∧ Below w.heap.size w wr) (fun _ i _ => ps.length - (intOf i).toNat)
      case atStart => exact ⟨0, A0, c0, [], Nat.zero_le _, rfl, rfl, rfl, hown0, hb0⟩
      case round =>
        obtain ⟨k, A, c, xs, hk, rfl, rfl, hx, hown, hb⟩ := hrel
        have hxl : xs.length ≤ 100000 := by have := cat_le ps k; rw [hx]; omega
        have HX := Lib.hid hx
        clear hx
        by_cases hlt : k < ps.length
        · obtain ⟨p, hpk⟩ : ∃ p, ps[k]? = some p := ⟨_, List.getElem?_eq_getElem hlt⟩
          have c1 := cell_below hb (HP.out k p hpk).1
          have hr := (HP.out k p hpk).2.below hb
          have hst := cat_step hpk
          have hle : xs.length + p.2.2.length ≤ 100000 := by
            have := cat_le ps (k + 1)
            rw [hst, List.length_append, ← HX.out] at this
            omega
          have HST := Lib.hid hst
          clear hst hpk
          go_wp2_with (at_builtin; refine wpList_append_rd _ rfl _ _ rfl w.heap.size _ xs rfl hown p.1 p.2.1 p.2.2 rfl hr (by omega) hb.size ?_; intro A1 c1 w2 hown2 hb2)
          go_roundw
          case rel => exact ⟨k + 1, A1, c1, xs ++ p.2.2, by omega, by go_num, by rw [List.length_append], by rw [HST.out, HX.out], hown2, hb.trans hb2⟩
          case measure => simp [intOf]; omega
        · go_wp2
          go_ret
          have e := HX.out
          rw [cat_all (by omega)] at e
          subst e
          exact ⟨A, c, rfl, hown, hb⟩

theorem three_read {w : World} {b : Nat} {A1 A2 A3 : Option Addr} {c1 c2 c3 : Nat} {f1 f2 f3 : List Fl} (h1 : w.cell? ⟨b, 0, none⟩ = some (.slice A1 f1.length c1)) (h2 : w.cell? ⟨b, 1, none⟩ = some (.slice A2 f2.length c2)) (h3 : w.cell? ⟨b, 2, none⟩ = some (.slice A3 f3.length c3))
    (r1 : Rd w A1 f1) (r2 : Rd w A2 f2) (r3 : Rd w A3 f3) : Pcs w b [(A1, c1, f1), (A2, c2, f2), (A3, c3, f3)] := fun i p hi => by
  match i, hi with
  | 0, hi => simp at hi; subst hi; exact ⟨h1, r1⟩
  | 1, hi => simp at hi; subst hi; exact ⟨h2, r2⟩
  | 2, hi => simp at hi; subst hi; exact ⟨h3, r3⟩
  | i + 3, hi => simp at hi
theorem two_read {w : World} {b : Nat} {A1 A2 : Option Addr} {c1 c2 : Nat} {f1 f2 : List Fl} (h1 : w.cell? ⟨b, 0, none⟩ = some (.slice A1 f1.length c1)) (h2 : w.cell? ⟨b, 1, none⟩ = some (.slice A2 f2.length c2))
    (r1 : Rd w A1 f1) (r2 : Rd w A2 f2) : Pcs w b [(A1, c1, f1), (A2, c2, f2)] := fun i p hi => by
  match i, hi with
  | 0, hi => simp at hi; subst hi; exact ⟨h1, r1⟩
  | 1, hi => simp at hi; subst hi; exact ⟨h2, r2⟩
  | i + 2, hi => simp at hi
theorem one_read {w : World} {b : Nat} {f : Fl} (h1 : w.cell? ⟨b, 0, none⟩ = some (.string ⟨f.1.toArray⟩)) (h2 : w.cell? ⟨b, 1, none⟩ = some (.string ⟨f.2.toArray⟩)) : Rd w (some ⟨b, 0, none⟩) [f] := fun _ =>
  ⟨b, 0, rfl, fun i g hi => by
    match i, hi with
    | 0, hi => simp at hi; subst hi; exact ⟨h1, h2⟩
    | i + 1, hi => simp at hi⟩
theorem cat3 (A1 A2 A3 : Option Addr) (c1 c2 c3 : Nat) (f1 f2 f3 : List Fl) : cat [(A1, c1, f1), (A2, c2, f2), (A3, c3, f3)] = f1 ++ (f2 ++ f3) := by simp [cat]
theorem cat2 (A1 A2 : Option Addr) (c1 c2 : Nat) (f1 f2 : List Fl) : cat [(A1, c1, f1), (A2, c2, f2)] = f1 ++ f2 := by simp [cat]

theorem Res.from {w w1 : World} {fs : List Fl} {e : Ending} {w' : World} (h : Res w1 fs e w') (hb : Below w.heap.size w w1) : Res w fs e w' := by
  obtain ⟨A, c, he, ho, hb1⟩ := h
  exact ⟨A, c, he, ho.mono hb.size, bch hb hb1⟩

theorem join_world (A B : Option Addr) (c d : Nat) (fs gs : List Fl) (f : Fl) (w : World) (hr : Rd w A fs) (hq : Rd w B gs) (hc : fs.length + gs.length ≤ 1000) :
    Calls Try.prog 33 #[.slice (some ⟨w.heap.size + 1 + 1, 0, none⟩) 3 3] (((w.alloc (.cells #[.string ⟨f.1.toArray⟩, .string ⟨f.2.toArray⟩] 25)).alloc (.cells #[.string ⟨f.1.toArray⟩, .string ⟨f.2.toArray⟩] 25)).alloc
      (.cells #[.slice A fs.length c, .slice (some ⟨w.heap.size + 1, 0, none⟩) 1 1, .slice B gs.length d] 22)) (Res w (fs ++ (f :: gs))) := by
  have b1 := one_below w (.cells #[.string ⟨f.1.toArray⟩, .string ⟨f.2.toArray⟩] 25)
  have s1 : (w.alloc (.cells #[.string ⟨f.1.toArray⟩, .string ⟨f.2.toArray⟩] 25)).heap.size = w.heap.size + 1 := by simp
  generalize w.alloc (.cells #[.string ⟨f.1.toArray⟩, .string ⟨f.2.toArray⟩] 25) = w1 at b1 s1
  have b2 := one_below w1 (.cells #[.string ⟨f.1.toArray⟩, .string ⟨f.2.toArray⟩] 25)
  have s2 : (w1.alloc (.cells #[.string ⟨f.1.toArray⟩, .string ⟨f.2.toArray⟩] 25)).heap.size = w.heap.size + 1 + 1 := by simp [s1]
  have r2 : Rd (w1.alloc (.cells #[.string ⟨f.1.toArray⟩, .string ⟨f.2.toArray⟩] 25)) (some ⟨w.heap.size + 1, 0, none⟩) [f] := by
    rw [← s1]; exact one_read (new_fst _ _ _ _) (new_snd _ _ _ _)
  generalize w1.alloc (.cells #[.string ⟨f.1.toArray⟩, .string ⟨f.2.toArray⟩] 25) = w2 at b2 s2 r2
  have b3 := one_below w2 (.cells #[.slice A fs.length c, .slice (some ⟨w.heap.size + 1, 0, none⟩) 1 1, .slice B gs.length d] 22)
  have hb := bch b1 (bch b2 b3)
  have hp := three_read (w := w2.alloc (.cells #[.slice A fs.length c, .slice (some ⟨w.heap.size + 1, 0, none⟩) 1 1, .slice B gs.length d] 22)) (b := w.heap.size + 1 + 1) (A1 := A) (A2 := some ⟨w.heap.size + 1, 0, none⟩) (A3 := B) (c1 := c) (c2 := 1) (c3 := d) (f1 := fs) (f2 := [f]) (f3 := gs)
    (by rw [← s2, World.cell?_alloc_new]; rfl) (by rw [← s2, World.cell?_alloc_new]; rfl) (by rw [← s2, World.cell?_alloc_new]; rfl) (hr.below hb) (r2.below b3) (hq.below hb)
  have h := concat_any (w.heap.size + 1 + 1) 3 _ _ hp (by simp) (by rw [cat3]; simp; omega)
  rw [cat3] at h
  exact h.mono fun _ _ hh => hh.from hb
set_option maxHeartbeats 1000000 in
theorem join_any (A B : Option Addr) (c d : Nat) (fs gs : List Fl) (f : Fl) (w : World) (hr : Rd w A fs) (hq : Rd w B gs) (hc : fs.length + gs.length ≤ 1000) :
    Calls Try.prog 35 #[.slice A fs.length c, .agg #[.string ⟨f.1.toArray⟩, .string ⟨f.2.toArray⟩], .slice B gs.length d] w (Res w (fs ++ (f :: gs))) := by
  have h := join_world A B c d fs gs f w hr hq hc
  obtain ⟨r, hr0⟩ : ∃ r, r = fs ++ (f :: gs) := ⟨_, rfl⟩
  rw [← hr0] at h ⊢
  have HC := Lib.hid h
  clear h hr0
  go_enter Try.func35, Try.ntmps35
  go_wp2_with fail
  refine HC.out.mono ?_
  rintro e w1 ⟨A1, c1, rfl, ho, hb⟩
  go_wp2
  go_ret
  exact ⟨A1, c1, rfl, ho, hb⟩

/-- A cut of a slice from k on: where it lies. -/
def cutA (A : Option Addr) (c k : Nat) : Option Addr := if c = k then A else A.map (·.add (k * 2))
theorem Rd.cut {w : World} {A : Option Addr} {fs : List Fl} (h : Rd w A fs) {k c : Nat} (hk : k ≤ fs.length) (hc : fs.length ≤ c) : Rd w (cutA A c k) (fs.drop k) := fun h0 => by
  rw [List.length_drop] at h0
  obtain ⟨b, o, rfl, hcell⟩ := h (by omega)
  unfold cutA
  rw [if_neg (by omega)]
  refine ⟨b, o + k * 2, by simp [add_lit], fun i f hi => ?_⟩
  rw [List.getElem?_drop] at hi
  have := hcell _ f hi
  rw [show o + k * 2 + i * 2 = o + (k + i) * 2 by omega]
  exact this
theorem Rd.take {w : World} {A : Option Addr} {fs : List Fl} (h : Rd w A fs) (k : Nat) : Rd w A (fs.take k) := fun h0 => by
  rw [List.length_take] at h0
  obtain ⟨b, o, e, hcell⟩ := h (by omega)
  refine ⟨b, o, e, fun i f hi => hcell i f ?_⟩
  rw [List.getElem?_take] at hi
  split at hi
  · exact hi
  · cases hi
end Go.Proofs.Ytdaekfigpkogbaa
