/-
  Words for memory: a slice of files that reads as a list; what is kept behind calls.
  Contracts of the document's answer's Get, Name, Right, has, Same, Words, and of the law's equal: they return the plain functions of what they read, and leave the world as it was, but for draws.
  Contracts of the law's equal, of files.Same, of the document's answer's Name and has: plain functions of what they read; the world stays, but for draws.
  Contracts of files.wrong, files.Right and the document's answer's Right: plain functions of what they read; old memory stays.
  Contracts of strings.Compare, of the closure that files.find hands to sort.Find, of sort.Find with it, of files.find and files.Get: over a sorted list the place of a name, and whether it is there; old memory stays.
  Append onto a row of one's own out of a list that reads as files; contracts of slices.Grow (of nil), slices.Concat, files.join, files.fresh: a new list of the call's own; old memory stays.
-/
import Derived.Test.YtmnbepapgghdaaaGreatRows
import Derived.Test.YtmnbepapgghdaaaGreatK20
import Derived.WalkKit
import Derived.WalkSpells
import Derived.WalkLawsBesides
import Derived.Lib.Hide
import Derived.Deep.AppendLies
import Derived.Deep.Draws
import Derived.Laws.OwnMore
import Derived.BigQuiet
import Derived.Deep.QuietTactic
import Derived.Lib.Bytealg
import Derived.Lib.AppendZerosOnto
namespace Go.Proofs.YtmnbepapgghdaaaGreat.Fl
open Go.RowKit

def fcells : List Fl → List Value
  | [] => []
  | f :: r => .string ⟨f.1.toArray⟩ :: .string ⟨f.2.toArray⟩ :: fcells r
theorem fcells_len : ∀ fs : List Fl, (fcells fs).length = fs.length * 2
  | [] => rfl
  | f :: r => by simp only [fcells, List.length_cons, fcells_len r]; omega
theorem fcells_app : ∀ a b : List Fl, fcells (a ++ b) = fcells a ++ fcells b
  | [], _ => rfl
  | f :: r, b => by simp only [List.cons_append, fcells, fcells_app r b]
theorem fcells_at : ∀ (fs : List Fl) (i : Nat) (f : Fl), fs[i]? = some f → (fcells fs)[i * 2]? = some (.string ⟨f.1.toArray⟩) ∧ (fcells fs)[i * 2 + 1]? = some (.string ⟨f.2.toArray⟩)
  | [], _, _, h => by simp at h
  | g :: r, 0, f, h => by simp at h; subst h; exact ⟨rfl, rfl⟩
  | g :: r, i + 1, f, h => by
    have := fcells_at r i f (by simpa using h)
    rw [show (i + 1) * 2 = i * 2 + 1 + 1 by omega]
    simpa [fcells] using this
theorem fcells_one : ∀ (fs : List Fl), ∀ u ∈ fcells fs, u.oneCell' = true
  | [], u, h => by cases h
  | f :: r, u, h => by
    simp only [fcells, List.mem_cons] at h
    rcases h with rfl | rfl | h
    · rfl
    · rfl
    · exact fcells_one r u h

/-- The slice at A reads as these files. -/
def Rd (w : World) (A : Option Addr) (fs : List Fl) : Prop :=
  0 < fs.length → ∃ b o, A = some ⟨b, o, none⟩ ∧ ∀ i f, fs[i]? = some f → w.cell? ⟨b, o + i * 2, none⟩ = some (.string ⟨f.1.toArray⟩) ∧ w.cell? ⟨b, o + i * 2 + 1, none⟩ = some (.string ⟨f.2.toArray⟩)
theorem Rd.keep {w w' : World} {A : Option Addr} {fs : List Fl} (h : Rd w A fs) (hk : ∀ (p : Addr) (v : Value), w.cell? p = some v → w'.cell? p = some v) : Rd w' A fs := fun h0 => by
  obtain ⟨b, o, e, hc⟩ := h h0
  exact ⟨b, o, e, fun i f hi => ⟨hk _ _ (hc i f hi).1, hk _ _ (hc i f hi).2⟩⟩
theorem cell_below {w w' : World} (hb : Below w.heap.size w w') {p : Addr} {v : Value} (h : w.cell? p = some v) : w'.cell? p = some v :=
  (hb.cell (World.block_lt_of_cell? w p h)).trans h
theorem Rd.below {w w' : World} {A : Option Addr} {fs : List Fl} (h : Rd w A fs) (hb : Below w.heap.size w w') : Rd w' A fs := h.keep fun _ _ hc => cell_below hb hc
theorem Rd.alloc {w : World} {A : Option Addr} {fs : List Fl} (h : Rd w A fs) (o : Obj) : Rd (w.alloc o) A fs := h.below ((Below.refl _ _).alloc (Nat.le_refl _) _)
theorem Rd.drewN {w : World} {A : Option Addr} {fs : List Fl} (h : Rd w A fs) (n : Nat) : Rd (w.drewN n) A fs := h
theorem Rd.drew {w : World} {A : Option Addr} {fs : List Fl} (h : Rd w A fs) : Rd w.drew A fs := h
theorem Rd.empty (w : World) (A : Option Addr) : Rd w A [] := fun h => absurd h (by simp)

/-- A slice of one's own that holds these files. -/
def Own (w : World) (base : Nat) (A : Option Addr) (c : Nat) (fs : List Fl) : Prop := w.ownsRow base 45 2 (.slice A fs.length c) fs.length (fcells fs)
theorem Own.rd {w : World} {base : Nat} {A : Option Addr} {c : Nat} {fs : List Fl} (h : Own w base A c fs) : Rd w A fs := fun h0 => by
  obtain ⟨g, cap, hv, _, _⟩ := World.ownsRow.form h h0
  simp only [Value.slice.injEq] at hv
  obtain ⟨rfl, _, _⟩ := hv
  refine ⟨g, 0, rfl, fun i f hi => ?_⟩
  have hlt : i < fs.length := by
    rcases Nat.lt_or_ge i fs.length with q | q
    · exact q
    · rw [List.getElem?_eq_none q] at hi; cases hi
  obtain ⟨h1, h2⟩ := fcells_at fs i f hi
  have c1 := World.ownsRow.cellAt h (i * 2) (by omega)
  have c2 := World.ownsRow.cellAt h (i * 2 + 1) (by omega)
  rw [Nat.zero_add]
  exact ⟨c1.trans h1, c2.trans h2⟩
theorem Own.cap {w : World} {base : Nat} {A : Option Addr} {c : Nat} {fs : List Fl} (h : Own w base A c fs) : fs.length ≤ c ∧ c ≤ 9223372036854775807 ∧ (A = none → c = 0) := by
  rcases h.2 with ⟨hv, h0⟩ | ⟨g, cap, cur, hv, _, _, h1, h2, _⟩
  · simp only [Value.slice.injEq] at hv
    obtain ⟨rfl, _, rfl⟩ := hv
    exact ⟨by omega, by omega, fun _ => rfl⟩
  · simp only [Value.slice.injEq] at hv
    obtain ⟨rfl, _, rfl⟩ := hv
    unfold maxLen at h2
    exact ⟨h1, by omega, fun e => by cases e⟩
theorem Own.mono {w : World} {base base' : Nat} {A : Option Addr} {c : Nat} {fs : List Fl} (h : Own w base A c fs) (hb : base' ≤ base) : Own w base' A c fs := by
  refine ⟨h.1, ?_⟩
  rcases h.2 with q | ⟨g, cap, cur, h1, h2, r⟩
  · exact .inl q
  · exact .inr ⟨g, cap, cur, h1, Nat.le_trans hb h2, r⟩
theorem Own.below {w w' : World} {base : Nat} {A : Option Addr} {c : Nat} {fs : List Fl} (h : Own w base A c fs) (hb : Below w.heap.size w w') : Own w' base A c fs := by
  refine ⟨h.1, ?_⟩
  rcases h.2 with q | ⟨g, cap, cur, h1, h2, h3, r⟩
  · exact .inl q
  · have hlt : g < w.heap.size := by
      rcases Nat.lt_or_ge g w.heap.size with hlt | hge
      · exact hlt
      · rw [Array.getElem?_eq_none hge] at h3; cases h3
    exact .inr ⟨g, cap, cur, h1, h2, (hb.block g hlt).trans h3, r⟩
theorem one_below (w : World) (o : Obj) : Below w.heap.size w (w.alloc o) := (Below.refl _ _).alloc (Nat.le_refl _) _
theorem drewN_below (w : World) (n : Nat) : Below w.heap.size w (w.drewN n) := ⟨rfl, rfl, rfl, Nat.le_refl _, fun _ _ => rfl⟩
theorem bch {a b c : World} (h : Below a.heap.size a b) (k : Below b.heap.size b c) : Below a.heap.size a c := h.trans (k.mono h.size)
theorem new_fst (w : World) (a b : Value) (t : TypeId) : (w.alloc (.cells #[a, b] t)).cell? ⟨w.heap.size, 0, none⟩ = some a := by rw [World.cell?_alloc_new]; rfl
theorem new_snd (w : World) (a b : Value) (t : TypeId) : (w.alloc (.cells #[a, b] t)).cell? ⟨w.heap.size, 1, none⟩ = some b := by rw [World.cell?_alloc_new]; rfl
end Go.Proofs.YtmnbepapgghdaaaGreat.Fl

namespace Go.Proofs.YtmnbepapgghdaaaGreat.Fl
open Go.RowKit

theorem ret_two {a a' b b' : Value} (h : a = a') (k : b = b') : Ending.returned (.tuple #[a, b]) = .returned (.tuple #[a', b']) := by rw [h, k]
theorem ret_bool {a b : Bool} (h : a = b) : Ending.returned (.bool a) = .returned (.bool b) := by rw [h]
theorem ret_int {k : IntKind} {a b : Int} (h : a = b) : Ending.returned (.int k a) = .returned (.int k b) := by rw [h]
theorem str_eq {a b : List UInt8} (h : a = b) : Value.string ⟨a.toArray⟩ = .string ⟨b.toArray⟩ := by rw [h]
theorem at_take {fs : List Fl} {k : Nat} {f : Fl} (h : fs[k]? = some f) : fs.take (k + 1) = fs.take k ++ [f] := by
  rw [List.take_add_one, h]; rfl
theorem getL_found {fs : List Fl} {k : Nat} {f : Fl} (h : fs[k]? = some f) (hno : ∀ g ∈ fs.take k, g.1 ≠ f.1) : getL fs f.1 = some f.2 := by
  have hk : k < fs.length := by
    rcases Nat.lt_or_ge k fs.length with q | q
    · exact q
    · rw [List.getElem?_eq_none q] at h; cases h
  have hd : fs.drop k = f :: fs.drop (k + 1) := by
    rw [List.drop_eq_getElem_cons hk]
    rw [List.getElem?_eq_getElem hk] at h
    rw [Option.some.inj h]
  rw [← List.take_append_drop k fs, getL_append, getL_none hno, hd, getL_cons, if_pos rfl]

set_option maxHeartbeats 400000 in
theorem rget_any (A : Option Addr) (c : Nat) (fs : List Fl) (n : List UInt8) (w : World) (hr : Rd w A fs) (hc : fs.length ≤ 100000) :
    Calls Tryz.prog 54 #[.slice A fs.length c, .string ⟨n.toArray⟩] w fun e w' => e = .returned (.tuple #[.string ⟨(txtL fs n).toArray⟩, .bool (hasL fs n)]) ∧ w = w' := by
  go_enter Tryz.func54, Tryz.ntmps54
  go_wp2
  go_loop [6] (fun i => ∃ k : Nat, k ≤ fs.length ∧ i = .int .i64 k ∧ ∀ f ∈ fs.take k, f.1 ≠ n) (fun i => fs.length - (intOf i).toNat)
  case atStart => exact ⟨0, Nat.zero_le _, rfl, by simp⟩
  case round =>
    obtain ⟨k, hk, rfl, hno⟩ := hrel
    by_cases hlt : k < fs.length
    · obtain ⟨b, o, rfl, hcell⟩ := hr (by omega)
      obtain ⟨f, hf⟩ : ∃ f, fs[k]? = some f := ⟨_, List.getElem?_eq_getElem hlt⟩
      obtain ⟨c1, c2⟩ := hcell k f hf
      have Hno := Lib.hid hno
      have HF := Lib.hid hf
      clear hno hf hcell hr
      by_cases hn : f.1 = n
      · have q : (f.1 == n) = true := by simpa using hn
        have Hn := Lib.hid hn
        clear hn
        go_wp2
        go_ret2
        have hn := Hn.out
        subst hn
        have := getL_found HF.out Hno.out
        exact ⟨ret_two (str_eq (by simp [txtL, this])) (by rw [hasL_get, this]; rfl), rfl⟩
      · have q : (f.1 == n) = false := by simpa using hn
        have Hn := Lib.hid hn
        clear hn
        go_wp2
        go_round
        case rel => exact ⟨k + 1, by omega, by go_num, fun g hg => by
          rw [at_take HF.out] at hg
          rcases List.mem_append.1 hg with hg | hg
          · exact Hno.out g hg
          · simp only [List.mem_singleton] at hg; subst hg; exact Hn.out⟩
        case measure => simp [intOf]; omega
    · have Hno := Lib.hid hno
      clear hno
      go_wp2
      go_ret2
      have : getL fs n = none := getL_none fun g hg => Hno.out g (by rw [List.take_of_length_le (by omega)]; exact hg)
      exact ⟨ret_two (str_eq (by simp [txtL, this])) (by rw [hasL_get, this]; rfl), rfl⟩

/-! ### Names -/
def nmI (x : Int) : Bool := decide (97 ≤ x ∧ x ≤ 122 ∨ 48 ≤ x ∧ x ≤ 57 ∨ x = 45 ∨ x = 46)
theorem nmB_int (c : UInt8) : nmB c = nmI c.toNat := by
  unfold nmB nmI
  exact decide_eq_decide.2 (by omega)
theorem nm_ways (c : Int) : (97 ≤ c ∧ c ≤ 122) ∨ (122 < c) ∨ (57 < c ∧ c < 97) ∨ (48 ≤ c ∧ c ≤ 57) ∨ (c = 47) ∨ (c = 46) ∨ (c = 45) ∨ (c < 45) := by omega
set_option maxHeartbeats 1000000 in
theorem nameInt_any (x : Int) (w : World) :
    Calls Tryz.prog 120 #[.int .u8 x] w fun e w' => e = .returned (.bool (nmI x)) ∧ w = w' := by
  rcases nm_ways x with h | h | h | h | h | h | h | h
  all_goals
    try subst h
    go_enter Tryz.func120, Tryz.ntmps120
    go_wp2
    go_ret
    first | exact ⟨rfl, rfl⟩ | exact ⟨ret_bool (by rw [Bool.eq_iff_iff]; simp [nmI]; omega), rfl⟩
theorem nameByte_any (c : UInt8) (w : World) :
    Calls Tryz.prog 120 #[.int .u8 c.toNat] w fun e w' => e = .returned (.bool (nmB c)) ∧ w = w' := by
  rw [nmB_int]; exact nameInt_any _ w
theorem nmOk_stop {s : List UInt8} {k : Nat} {c : UInt8} (h : s[k]? = some c) (hb : nmB c = false) : nmOk s = false := by
  unfold nmOk
  rw [Bool.and_eq_false_iff]
  right
  rw [List.all_eq_false]
  exact ⟨c, List.mem_of_getElem? h, by simp [hb]⟩
theorem nmOk_all {s : List UInt8} (h : ∀ c ∈ s, nmB c = true) : nmOk s = decide (1 ≤ s.length ∧ s.length ≤ 24) := by
  unfold nmOk
  rw [List.all_eq_true.2 h, Bool.and_true]
theorem nmOk_len {s : List UInt8} (h : ¬ (1 ≤ s.length ∧ s.length ≤ 24)) : nmOk s = false := by
  unfold nmOk
  rw [decide_eq_false h, Bool.false_and]
theorem step_all {s : List UInt8} {k : Nat} {c : UInt8} (h : s[k]? = some c) (hb : nmB c = true) (hall : ∀ d ∈ s.take k, nmB d = true) : ∀ d ∈ s.take (k + 1), nmB d = true := fun d hd => by
  rw [List.take_add_one, h] at hd
  rcases List.mem_append.1 hd with hd | hd
  · exact hall d hd
  · simp at hd; subst hd; exact hb

set_option maxHeartbeats 1000000 in
theorem name_any (s : List UInt8) (w : World) (hs : s.length ≤ 9223372036854775807) :
    Calls Tryz.prog 100 #[.string ⟨s.toArray⟩] w fun e w' => e = .returned (.bool (nmOk s)) ∧ w = w' := by
  by_cases h0 : s.length = 0
  · have hn := Lib.hid (nmOk_len (s := s) (by omega))
    obtain rfl : s = [] := List.length_eq_zero_iff.1 h0
    clear h0
    go_enter Tryz.func100, Tryz.ntmps100
    go_wp2
    go_ret
    exact ⟨ret_bool hn.out.symm, rfl⟩
  by_cases h24 : 24 < s.length
  · have hn := Lib.hid (nmOk_len (s := s) (by omega))
    have q0 : ((s.length : Int) == 0) = false := by simpa using h0
    go_enter Tryz.func100, Tryz.ntmps100
    go_wp2
    go_ret
    exact ⟨ret_bool hn.out.symm, rfl⟩
  have q0 : ((s.length : Int) == 0) = false := by simpa using h0
  have h1 : 0 < s.length := by omega
  clear h0
  go_enter Tryz.func100, Tryz.ntmps100
  go_wp2
  go_loop [14] (fun i => ∃ k : Nat, k ≤ s.length ∧ i = .int .i64 k ∧ ∀ d ∈ s.take k, nmB d = true) (fun i => s.length - (intOf i).toNat)
  case atStart => exact ⟨0, Nat.zero_le _, rfl, by simp⟩
  case round =>
    obtain ⟨k, hk, rfl, hall⟩ := hrel
    have Hall := Lib.hid hall
    clear hall
    by_cases hlt : k < s.length
    · have hlt' : k < (ByteArray.mk s.toArray).size := hlt
      obtain ⟨c, hc⟩ : ∃ c, c = (ByteArray.mk s.toArray)[k] := ⟨_, rfl⟩
      have hget : s[k]? = some c := by rw [hc]; exact List.getElem?_eq_getElem hlt
      have Hg := Lib.hid hget
      have Hc := Lib.hid hc
      clear hget hc
      cases hb : nmB c
      · have Hb := Lib.hid hb
        clear hb
        go_wp2_with fail
        rw [← Hc.out]
        refine (nameByte_any c _).mono ?_
        rintro e w' ⟨rfl, rfl⟩
        rw [Hb.out]
        go_wp2
        go_ret
        exact ⟨ret_bool (nmOk_stop Hg.out Hb.out).symm, rfl⟩
      · have Hb := Lib.hid hb
        clear hb
        go_wp2_with fail
        rw [← Hc.out]
        refine (nameByte_any c _).mono ?_
        rintro e w' ⟨rfl, rfl⟩
        rw [Hb.out]
        go_wp2
        go_round
        case rel => exact ⟨k + 1, by omega, by go_num, step_all Hg.out Hb.out Hall.out⟩
        case measure => simp [intOf]; omega
    · go_wp2
      go_ret
      refine ⟨ret_bool ?_, rfl⟩
      rw [nmOk_all fun d hd => Hall.out d (by rw [List.take_of_length_le (by omega)]; exact hd)]
      exact (decide_eq_true (by omega)).symm
end Go.Proofs.YtmnbepapgghdaaaGreat.Fl

namespace Go.Proofs.YtmnbepapgghdaaaGreat.Fl
open Go.RowKit

set_option maxHeartbeats 1000000 in
theorem rname_any (s : List UInt8) (w : World) (hs : s.length ≤ 9223372036854775807) :
    Calls Tryz.prog 33 #[.string ⟨s.toArray⟩] w fun e w' => e = .returned (.bool (nmOk s)) ∧ w = w' := by
  go_enter Tryz.func33, Tryz.ntmps33
  go_wp2
  go_loop [3] (fun i => ∃ k : Nat, k ≤ s.length ∧ i = .int .i64 k ∧ ∀ d ∈ s.take k, nmB d = true) (fun i => s.length - (intOf i).toNat)
  case atStart => exact ⟨0, Nat.zero_le _, rfl, by simp⟩
  case round =>
    obtain ⟨k, hk, rfl, hall⟩ := hrel
    have Hall := Lib.hid hall
    clear hall
    by_cases hlt : k < s.length
    · have hlt' : k < (ByteArray.mk s.toArray).size := hlt
      obtain ⟨c, hc⟩ : ∃ c, c = (ByteArray.mk s.toArray)[k] := ⟨_, rfl⟩
      have hget : s[k]? = some c := by rw [hc]; exact List.getElem?_eq_getElem hlt
      have Hg := Lib.hid hget
      have hx : ((ByteArray.mk s.toArray)[k].toNat : Int) = (c.toNat : Int) := by rw [hc]
      clear hget hc
      obtain ⟨x, hxx⟩ : ∃ x : Int, x = (c.toNat : Int) := ⟨_, rfl⟩
      rw [← hxx] at hx
      have HX := Lib.hid hxx
      clear hxx
      rcases nm_ways x with h | h | h | h | h | h | h | h
      all_goals
        try subst h
        try (have d1 : decide (x ≤ 122) = false := decide_eq_false (by omega))
        try (have d2 : decide (x ≤ 57) = false := decide_eq_false (by omega))
        try (have d3 : (x == 45) = false := by rw [beq_eq_false_iff_ne]; omega)
        try (have d4 : (x == 46) = false := by rw [beq_eq_false_iff_ne]; omega)
        go_wp2
        first
        | (go_round
           case rel => exact ⟨k + 1, by omega, by go_num, step_all Hg.out (by rw [nmB_int, ← HX.out]; first | rfl | exact decide_eq_true (by omega)) Hall.out⟩
           case measure => simp [intOf]; omega)
        | (go_ret
           exact ⟨ret_bool (nmOk_stop Hg.out (by rw [nmB_int, ← HX.out]; first | rfl | exact decide_eq_false (by omega))).symm, rfl⟩)
    · by_cases h1 : 1 ≤ s.length
      · go_wp2
        go_ret
        refine ⟨ret_bool ?_, rfl⟩
        rw [nmOk_all fun d hd => Hall.out d (by rw [List.take_of_length_le (by omega)]; exact hd), Bool.eq_iff_iff]
        simp; omega
      · go_wp2
        go_ret
        refine ⟨ret_bool ?_, rfl⟩
        rw [nmOk_all fun d hd => Hall.out d (by rw [List.take_of_length_le (by omega)]; exact hd), Bool.eq_iff_iff]
        simp; omega

theorem eq_stop {α : Type} [DecidableEq α] {fs gs : List α} {k : Nat} {f g : α} (hf : fs[k]? = some f) (hg : gs[k]? = some g) (hne : f ≠ g) : false = decide (fs = gs) :=
  (decide_eq_false fun e => by rw [e, hg] at hf; exact hne (Option.some.inj hf).symm).symm
theorem eq_step {α : Type} {fs gs : List α} {k : Nat} {f g : α} (hf : fs[k]? = some f) (hg : gs[k]? = some g) (he : f = g) (h : fs.take k = gs.take k) : fs.take (k + 1) = gs.take (k + 1) := by
  rw [List.take_add_one, List.take_add_one, hf, hg, he, h]
theorem eq_end {α : Type} [DecidableEq α] {fs gs : List α} {k : Nat} (h1 : fs.length ≤ k) (h2 : gs.length ≤ k) (h : fs.take k = gs.take k) : true = decide (fs = gs) := by
  rw [List.take_of_length_le h1, List.take_of_length_le h2] at h
  exact (decide_eq_true h).symm
theorem eq_len {α : Type} [DecidableEq α] {fs gs : List α} (h : fs.length ≠ gs.length) : false = decide (fs = gs) := (decide_eq_false fun e => h (by rw [e])).symm

end Go.Proofs.YtmnbepapgghdaaaGreat.Fl

namespace Go.Proofs.YtmnbepapgghdaaaGreat.Fl
open Go.RowKit

theorem wrE_name {f : Fl} (h : nmOk f.1 = false) : (2 : Int) = wrE f := by unfold wrE; rw [if_pos h]
theorem wrE_text {f : Fl} (h : nmOk f.1 = true) (k : 4000 < f.2.length) : (3 : Int) = wrE f := by unfold wrE; rw [if_neg (by simp [h]), if_pos k]
theorem wrE_fine {f : Fl} (h : nmOk f.1 = true) (k : ¬ 4000 < f.2.length) : (0 : Int) = wrE f := by unfold wrE; rw [if_neg (by simp [h]), if_neg k]
/-- Texts whose lengths are ints. -/
def Fit (fs : List Fl) : Prop := ∀ f ∈ fs, f.1.length ≤ 9223372036854775807 ∧ f.2.length ≤ 9223372036854775807
theorem Good.fit {fs : List Fl} (h : Good fs) : Fit fs := fun f hf => by
  obtain ⟨h1, h2⟩ := wrE_ok (h.2.2 f hf)
  unfold nmOk at h1
  rw [Bool.and_eq_true] at h1
  have := of_decide_eq_true h1.1
  omega
end Go.Proofs.YtmnbepapgghdaaaGreat.Fl

namespace Go.Proofs.YtmnbepapgghdaaaGreat.Fl
open Go.RowKit

set_option maxHeartbeats 1000000 in
set_option maxRecDepth 100000 in
theorem cmpStr_any (a b : List UInt8) (w : World) :
    Calls Tryz.prog 121 #[.string ⟨a.toArray⟩, .string ⟨b.toArray⟩] w fun e w' => e = .returned (.int .i64 (Lib.compareBytes a b)) ∧ w = w' := by
  go_enter Tryz.func121, Tryz.ntmps121
  go_wp2
  rw [run_callFunc_extern Tryz.func129 (by kernel_rfl) (by kernel_rfl) (by kernel_rfl) (e := Extern.BytealgCompare.compare) (by kernel_rfl), Lib.run_compareString]
  simp only [Result.andThen]
  rw [Oper.upon_value]
  go_wp2
  go_ret
  exact ⟨rfl, rfl⟩
set_option maxHeartbeats 1000000 in
theorem compare_any (a b : List UInt8) (w : World) :
    Calls Tryz.prog 105 #[.string ⟨a.toArray⟩, .string ⟨b.toArray⟩] w fun e w' => e = .returned (.int .i64 (Lib.compareBytes a b)) ∧ w = w' := by
  go_enter Tryz.func105, Tryz.ntmps105
  go_wp2_with (go_at_call 121; refine (cmpStr_any _ _ _).mono ?_; rintro e w' ⟨rfl, rfl⟩)
  go_ret
  exact ⟨rfl, rfl⟩

set_option maxHeartbeats 1000000 in
theorem clos_any (p q : Nat) (A : Option Addr) (c k : Nat) (fs : List Fl) (f : Fl) (n : List UInt8) (w : World) (hr : Rd w A fs) (hc : fs.length ≤ 100000)
    (hp : w.cell? ⟨p, 0, none⟩ = some (.string ⟨n.toArray⟩)) (hq : w.cell? ⟨q, 0, none⟩ = some (.slice A fs.length c)) (hf : Hid (fs[k]? = some f)) (hk : k < fs.length) :
    Calls Tryz.prog 104 #[.int .i64 k, .pointer (some ⟨p, 0, none⟩), .pointer (some ⟨q, 0, none⟩)] w fun e w' => e = .returned (.int .i64 (Lib.compareBytes n f.1)) ∧ ∃ m, w' = w.drewN m := by
  obtain ⟨b, o, rfl, hcell⟩ := hr (by omega)
  obtain ⟨c1, c2⟩ := hcell k f hf.out
  clear hcell hr
  have i1 : (k : Int) < (fs.length : Int) := by omega
  go_enter Tryz.func104, Tryz.ntmps104
  go_wp2_with fail
  go_quiet ((go_at_call 105; exact quiet_left (compare_any _ _ _)))
  go_wp2
  go_ret
  exact ⟨rfl, _, rfl⟩
  where
  quiet_left {P : Program} {f : FuncId} {args : Array Value} {w : World} {n : Nat} {v : Value}
    (h : Calls P f args (w.drewN n) fun e w' => e = .returned v ∧ w.drewN n = w') : Calls P f args (w.drewN n) fun e w'' => e = .returned v ∧ ∃ m, w'' = w.drewN m :=
  h.mono fun _ _ ⟨he, hm⟩ => ⟨he, n, hm.symm⟩

theorem cb_le {n m : List UInt8} (h : Op.bytesLess m n = false) : (Lib.compareBytes n m = -1 ∧ m ≠ n) ∨ (Lib.compareBytes n m = 0 ∧ m = n) := by
  rcases bl_tri n m with k | k | k
  · exact .inl ⟨cb_lt k, (bl_ne k).symm⟩
  · subst k; exact .inr ⟨cb_self _, rfl⟩
  · rw [k] at h; cases h
theorem get_of {fs : List Fl} {k : Nat} {f : Fl} (h : fs[k]? = some f) (hk : k < fs.length) : fs[k] = f := by
  rw [List.getElem?_eq_getElem hk] at h; exact Option.some.inj h
theorem lo_step {fs : List Fl} {n : List UInt8} {h : Nat} {f : Fl} (hs : Sorted fs) (hf : fs[h]? = some f) (hl : Op.bytesLess f.1 n = true) : ∀ t (q : t < fs.length), t < h + 1 → Op.bytesLess fs[t].1 n = true := fun t q k => by
  have hh : h < fs.length := by
    rcases Nat.lt_or_ge h fs.length with z | z
    · exact z
    · rw [List.getElem?_eq_none z] at hf; cases hf
  have e := get_of hf hh
  rcases Nat.lt_or_ge t h with z | z
  · have := hs.at z hh
    rw [e] at this
    exact bl_trans this hl
  · obtain rfl : t = h := by omega
    rw [e]; exact hl
theorem hi_step {fs : List Fl} {n : List UInt8} {h : Nat} {f : Fl} (hs : Sorted fs) (hf : fs[h]? = some f) (hl : Op.bytesLess f.1 n = false) : ∀ t (q : t < fs.length), h ≤ t → Op.bytesLess fs[t].1 n = false := fun t q k => by
  have e := get_of hf (by omega)
  rcases Nat.lt_or_ge h t with z | z
  · have := hs.at z q
    rw [e] at this
    cases k2 : Op.bytesLess fs[t].1 n
    · rfl
    · rw [bl_trans this k2] at hl; cases hl
  · obtain rfl : t = h := by omega
    rw [e]; exact hl

theorem ret_find {i j : Nat} {a b : Bool} (h : j = i) (k : b = a) : Ending.returned (.tuple #[.int .i64 (i : Int), .bool a]) = .returned (.tuple #[.int .i64 (j : Int), .bool b]) := by rw [h, k]
set_option maxHeartbeats 1000000 in
theorem sfind_any (p q : Nat) (A : Option Addr) (c : Nat) (fs : List Fl) (n : List UInt8) (w : World) (hr : Rd w A fs) (hc : fs.length ≤ 100000) (hs : Hid (Sorted fs))
    (hp : w.cell? ⟨p, 0, none⟩ = some (.string ⟨n.toArray⟩)) (hq : w.cell? ⟨q, 0, none⟩ = some (.slice A fs.length c)) :
    Calls Tryz.prog 103 #[.int .i64 fs.length, .func (Fn.func 104) #[] #[.pointer (some ⟨p, 0, none⟩), .pointer (some ⟨q, 0, none⟩)]] w fun e w' => e = .returned (.tuple #[.int .i64 (plc fs n), .bool (hasL fs n)]) ∧ ∃ m, w' = w.drewN m := by
  go_enter Tryz.func103, Tryz.ntmps103
  go_wp2
  go_loopw [4, 6] (fun x y wr => ∃ i j m : Nat, i ≤ j ∧ j ≤ fs.length ∧ x = .int .i64 i ∧ y = .int .i64 j ∧ (∀ t (h : t < fs.length), t < i → Op.bytesLess fs[t].1 n = true) ∧ (∀ t (h : t < fs.length), j ≤ t → Op.bytesLess fs[t].1 n = false) ∧ wr = w.drewN m) (fun x y _ => (intOf y).toNat - (intOf x).toNat)
  case atStart => exact ⟨0, fs.length, 0, Nat.zero_le _, Nat.le_refl _, rfl, rfl, (fun t _ h => absurd h (by omega)), (fun t h k => absurd h (by omega)), rfl⟩
  case round =>
    obtain ⟨i, j, m, hij, hj, rfl, rfl, hlo, hhi, rfl⟩ := hrel
    have Hlo := Lib.hid hlo
    have Hhi := Lib.hid hhi
    clear hlo hhi
    by_cases hlt : i < j
    · obtain ⟨h, hh⟩ : ∃ h, h = (i + j) / 2 := ⟨_, rfl⟩
      have HE := Lib.hid (show ((i : Int) + (j : Int)) / 2 = (h : Int) by omega)
      have hh1 : i ≤ h := by omega
      have hh2 : h < j := by omega
      clear hh
      obtain ⟨f, hf⟩ : ∃ f, fs[h]? = some f := ⟨_, List.getElem?_eq_getElem (by omega)⟩
      have HF := Lib.hid hf
      clear hf
      have HC := Lib.hid (fun m => clos_any p q A c h fs f n (w.drewN m) (hr.drewN m) hc hp hq HF (by omega))
      clear hr
      cases hl : Op.bytesLess f.1 n
      · have HL := Lib.hid hl
        clear hl
        rcases cb_le HL.out with ⟨e1, _⟩ | ⟨e1, _⟩
        all_goals
          have E1 := Lib.hid e1
          clear e1
          go_wp2_with fail
          rw [HE.out]
          refine (HC.out m).mono ?_
          rw [E1.out]
          rintro e w1 ⟨rfl, m1, rfl⟩
          go_wp2
          go_roundw
          case rel => exact ⟨i, h, _, by omega, by omega, rfl, rfl, Hlo.out, hi_step hs.out HF.out HL.out, rfl⟩
          case measure => simp [intOf]; omega
      · have HL := Lib.hid hl
        clear hl
        have E1 := Lib.hid (cb_gt HL.out)
        go_wp2_with fail
        rw [HE.out]
        refine (HC.out m).mono ?_
        rw [E1.out]
        rintro e w1 ⟨rfl, m1, rfl⟩
        go_wp2
        go_roundw
        case rel => exact ⟨h + 1, j, _, by omega, by omega, by go_num, rfl, lo_step hs.out HF.out HL.out, Hhi.out, rfl⟩
        case measure => simp [intOf]; omega
    · obtain rfl : i = j := by omega
      have hpl := plc_unique hs.out hj Hlo.out Hhi.out
      have HP := Lib.hid hpl
      by_cases hl : i < fs.length
      · obtain ⟨f, hf⟩ : ∃ f, fs[i]? = some f := ⟨_, List.getElem?_eq_getElem (by omega)⟩
        have e := get_of hf hl
        have hle : Op.bytesLess f.1 n = false := by have := Hhi.out i hl (Nat.le_refl _); rwa [e] at this
        have hhas : hasL fs n = (f.1 == n) := by
          have := hasL_plc hs.out (n := n) (by omega)
          rw [this]
          subst hpl
          rw [e]
        have HF := Lib.hid hf
        have HH := Lib.hid hhas
        have HC := Lib.hid (fun m => clos_any p q A c i fs f n (w.drewN m) (hr.drewN m) hc hp hq HF (by omega))
        clear hf e hhas hpl hr
        rcases cb_le hle with ⟨e1, e2⟩ | ⟨e1, e2⟩
        · have E1 := Lib.hid e1
          have E2 := Lib.hid e2
          clear e1 e2 hle
          go_wp2_with fail
          refine (HC.out m).mono ?_
          rw [E1.out]
          rintro e w1 ⟨rfl, m1, rfl⟩
          go_wp2
          go_ret2
          exact ⟨ret_find HP.out (HH.out.trans (beq_eq_false_iff_ne.2 E2.out)), _, by first | rfl | exact World.drewN_drewN _ _ _⟩
        · have E1 := Lib.hid e1
          have E2 := Lib.hid e2
          clear e1 e2 hle
          go_wp2_with fail
          refine (HC.out m).mono ?_
          rw [E1.out]
          rintro e w1 ⟨rfl, m1, rfl⟩
          go_wp2
          go_ret2
          exact ⟨ret_find HP.out (HH.out.trans (beq_iff_eq.2 E2.out)), _, by first | rfl | exact World.drewN_drewN _ _ _⟩
      · have HH := Lib.hid (hasL_plc_end (fs := fs) (n := n) (by omega))
        clear hpl
        go_wp2
        go_ret2
        exact ⟨ret_find HP.out HH.out, _, rfl⟩

theorem two_cells {w : World} (a b : Value) (t u : TypeId) : ((w.alloc (.cells #[a] t)).alloc (.cells #[b] u)).cell? ⟨w.heap.size, 0, none⟩ = some a ∧ ((w.alloc (.cells #[a] t)).alloc (.cells #[b] u)).cell? ⟨w.heap.size + 1, 0, none⟩ = some b := by
  refine ⟨?_, ?_⟩
  · rw [World.cell?_alloc_past _ _ _ (by simp), World.cell?_alloc_new]; rfl
  · rw [World.cell?_alloc_at _ _ _ _ (by simp)]; rfl
set_option maxHeartbeats 1000000 in
theorem find_any (A : Option Addr) (c : Nat) (fs : List Fl) (n : List UInt8) (w : World) (hr : Rd w A fs) (hc : fs.length ≤ 100000) (hs : Hid (Sorted fs)) :
    Calls Tryz.prog 80 #[.slice A fs.length c, .string ⟨n.toArray⟩] w fun e w' => e = .returned (.tuple #[.int .i64 (plc fs n), .bool (hasL fs n)]) ∧ Below w.heap.size w w' := by
  have hb := bch (one_below w (.cells #[.slice A fs.length c] 22)) (one_below _ (.cells #[.string ⟨n.toArray⟩] 9))
  obtain ⟨h1, h2⟩ := two_cells (w := w) (.slice A fs.length c) (.string ⟨n.toArray⟩) 22 9
  have HC := Lib.hid (sfind_any (w.heap.size + 1) w.heap.size A c fs n _ (hr.below hb) hc hs h2 h1)
  clear h1 h2
  go_enter Tryz.func80, Tryz.ntmps80
  go_wp2_with fail
  refine HC.out.mono ?_
  rintro e w1 ⟨rfl, m, rfl⟩
  go_wp2
  go_ret2
  exact ⟨rfl, bch hb (drewN_below _ _)⟩
end Go.Proofs.YtmnbepapgghdaaaGreat.Fl

namespace Go.Proofs.YtmnbepapgghdaaaGreat.Fl
open Go.RowKit

theorem fcells_inv : ∀ (gs : List Fl) (j : Nat) (u : Value), (fcells gs)[j]? = some u → ∃ f, gs[j / 2]? = some f ∧ ((j = j / 2 * 2 ∧ u = .string ⟨f.1.toArray⟩) ∨ (j = j / 2 * 2 + 1 ∧ u = .string ⟨f.2.toArray⟩))
  | [], j, u, h => by simp [fcells] at h
  | f :: r, 0, u, h => by simp [fcells] at h; exact ⟨f, rfl, .inl ⟨rfl, h.symm⟩⟩
  | f :: r, 1, u, h => by simp [fcells] at h; exact ⟨f, rfl, .inr ⟨rfl, h.symm⟩⟩
  | f :: r, j + 2, u, h => by
    obtain ⟨g, h1, h2⟩ := fcells_inv r j u (by simpa [fcells] using h)
    have e : (j + 2) / 2 = j / 2 + 1 := by omega
    refine ⟨g, by rw [e]; simpa using h1, ?_⟩
    rw [e]
    rcases h2 with ⟨h2, h3⟩ | ⟨h2, h3⟩
    · exact .inl ⟨by omega, h3⟩
    · exact .inr ⟨by omega, h3⟩
theorem add_lit (b o j : Nat) : (⟨b, o, none⟩ : Addr).add j = ⟨b, o + j, none⟩ := by unfold Addr.add; split <;> simp_all
theorem Rd.news {w : World} {b o : Nat} {gs : List Fl} (h : ∀ i f, gs[i]? = some f → w.cell? ⟨b, o + i * 2, none⟩ = some (.string ⟨f.1.toArray⟩) ∧ w.cell? ⟨b, o + i * 2 + 1, none⟩ = some (.string ⟨f.2.toArray⟩)) :
    ∀ j u, (fcells gs)[j]? = some u → w.cell? ((⟨b, o, none⟩ : Addr).add j) = some u := fun j u hu => by
  obtain ⟨f, h1, h2⟩ := fcells_inv gs j u hu
  obtain ⟨k1, k2⟩ := h _ f h1
  rw [add_lit]
  rcases h2 with ⟨e, rfl⟩ | ⟨e, rfl⟩
  · rw [e]; exact k1
  · rw [e, ← Nat.add_assoc]; exact k2

theorem Tryz.info45 : (Tryz.prog.info? 45).map (fun i => (i.zero, i.size, i.bytes)) = some (some (.agg #[.string ⟨#[]⟩, .string ⟨#[]⟩]), 2, 32) := by kernel_rfl
theorem Tryz.info9 : (Tryz.prog.info? 9).map (fun i => (i.zero, i.size, i.bytes)) = some (some (.string ⟨#[]⟩), 1, 16) := by kernel_rfl

theorem run_append_none (w : World) (base : Nat) (t ty e : TypeId) (i : TypeInfo) (size c : Nat) (ht : Tryz.prog.underlying t = some (.slice e)) (hi : Tryz.prog.info? e = some i)
    (v : Value) (n : Nat) (xs : List Value) (hown : w.ownsRow base e size v n xs) :
    (Builtin.append_ #[t, t] ty #[v, .slice none 0 c]).run Tryz.prog w = .ok v w := by
  rcases hown.2 with ⟨rfl, rfl⟩ | ⟨g, cap, cur, rfl, _, _, hnc, _⟩
  · simp [Builtin.append_, run_underlying ht, sizeOf, typeInfo, hi, Builtin.lenOf, Builtin.firstCells]
  · simp [Builtin.append_, run_underlying ht, sizeOf, typeInfo, hi, Builtin.lenOf, Builtin.firstCells, hnc, storeCells]

theorem own_shape {w : World} {base e size n : Nat} {v : Value} {xs : List Value} (h : w.ownsRow base e size v n xs) : ∃ A c, v = .slice A n c := by
  rcases h.2 with ⟨hv, h0⟩ | ⟨g, cap, cur, hv, _⟩
  · subst h0; exact ⟨_, _, hv⟩
  · exact ⟨_, _, hv⟩
theorem below_grown {w w' : World} {base e size n : Nat} {v : Value} {xs : List Value} (h : w.ownsRow base e size v n xs) (hg : w.grownBy w' v.ownBlock) (hb : base ≤ w.heap.size) : Below base w w' :=
  (Below.refl base w).grown hg hb fun k hk => (h.lt k hk).1

theorem run_append_rd (w : World) (base : Nat) (ty : TypeId) (v : Value) (xs : List Fl) (hown : w.ownsRow base 45 2 v xs.length (fcells xs)) (A : Option Addr) (c : Nat) (gs : List Fl) (hr : Rd w A gs)
    (hlen : xs.length + gs.length ≤ 200000) (hbase : base ≤ w.heap.size) :
    ∃ A' c' w', (Builtin.append_ #[22, 22] ty #[v, .slice A gs.length c]).run Tryz.prog w = .ok (.slice A' (xs ++ gs).length c') w' ∧ Own w' base A' c' (xs ++ gs) ∧ Below base w w' := by
  obtain ⟨i0, hi, hz0, hz1, hz2⟩ := info_parts Tryz.info45
  have main : ∀ (ad : Addr), (∀ j u, (fcells gs)[j]? = some u → w.cell? (ad.add j) = some u) →
      ∃ A' c' w', (Builtin.append_ #[22, 22] ty #[v, .slice (some ad) gs.length c]).run Tryz.prog w = .ok (.slice A' (xs ++ gs).length c') w' ∧ Own w' base A' c' (xs ++ gs) ∧ Below base w w' := fun ad hn => by
    obtain ⟨v', w', h1, h2, h3, _⟩ := run_append_own (P := Tryz.prog) w base 22 ty 45 i0 _ 2 32 Tryz.underlying22 hi hz0 hz1 hz2 rfl (by decide) v xs.length (fcells xs) hown ad gs.length c (fcells gs) (fcells_len gs) hn (fcells_one gs)
      (by unfold maxLen; omega) (by omega) hbase
    rw [← fcells_app] at h2
    obtain ⟨A', c', rfl⟩ := own_shape h2
    rw [← List.length_append] at h2 h1
    exact ⟨A', c', w', h1, h2, below_grown hown h3 hbase⟩
  cases A with
  | none =>
    have hg : gs = [] := by
      rcases Nat.eq_zero_or_pos gs.length with h | h
      · exact List.length_eq_zero_iff.1 h
      · obtain ⟨b, o, e, _⟩ := hr h; cases e
    subst hg
    obtain ⟨A', c', rfl⟩ := own_shape hown
    refine ⟨A', c', w, ?_, ?_, Below.refl _ _⟩
    · rw [List.append_nil]; exact run_append_none w base 22 ty 45 i0 2 c Tryz.underlying22 hi _ _ _ hown
    · rw [List.append_nil]; exact hown
  | some ad =>
    rcases Nat.eq_zero_or_pos gs.length with h | h
    · have hg := List.length_eq_zero_iff.1 h
      subst hg
      exact main ad fun j u hu => by simp [fcells] at hu
    · obtain ⟨b, o, e, hc⟩ := hr h
      cases e
      exact main _ (Rd.news hc)
theorem wpList_append_rd {ops : Array Oper} {rest : List Oper} {o : Oper} {a : Act} {Q : Exit → Act → World → Prop} (w : World) (hgd : o.guard = none) (s x : Operand)
    (ho : o.op = .call { callee := .builtin .append, args := #[s, x], argTypes := #[22, 22] }) (base : Nat) (v : Value) (xs : List Fl) (hs : a.eval s = v) (hown : w.ownsRow base 45 2 v xs.length (fcells xs))
    (A : Option Addr) (c : Nat) (gs : List Fl) (hx : a.eval x = .slice A gs.length c) (hr : Rd w A gs) (hlen : xs.length + gs.length ≤ 200000) (hbase : base ≤ w.heap.size)
    (h : ∀ A' c' w', Own w' base A' c' (xs ++ gs) → Below base w w' → wpList Tryz.prog ops Q rest (a.put o.dst (.slice A' (xs ++ gs).length c')) w') : wpList Tryz.prog ops Q (o :: rest) a w := by
  refine wpList_plain hgd fun K hK => ?_
  obtain ⟨A', c', w', hrun, h2, h3⟩ := run_append_rd w base o.type v xs hown A c gs hr hlen hbase
  unfold Oper.wp
  simp only [execOp, ho, resolve, invoke, builtin, Sem.run_bind, Sem.run_pure, Result.andThen_ok, List.map_toArray, List.map_cons, List.map_nil, hs, hx, hrun]
  exact hK _ _ (h A' c' w' h2 h3)

/-- The same, the source's length as it is spelt. -/
theorem wpList_append_rdn {ops : Array Oper} {rest : List Oper} {o : Oper} {a : Act} {Q : Exit → Act → World → Prop} (w : World) (hgd : o.guard = none) (s x : Operand)
    (ho : o.op = .call { callee := .builtin .append, args := #[s, x], argTypes := #[22, 22] }) (base : Nat) (v : Value) (xs : List Fl) (hs : a.eval s = v) (hown : w.ownsRow base 45 2 v xs.length (fcells xs))
    (A : Option Addr) (m c : Nat) (gs : List Fl) (hm : m = gs.length) (hx : a.eval x = .slice A m c) (hr : Rd w A gs) (hlen : xs.length + gs.length ≤ 200000) (hbase : base ≤ w.heap.size) (r : List Fl) (hr0 : xs ++ gs = r)
    (h : ∀ A' c' w', Own w' base A' c' r → Below base w w' → wpList Tryz.prog ops Q rest (a.put o.dst (.slice A' r.length c')) w') : wpList Tryz.prog ops Q (o :: rest) a w := by
  subst hm hr0
  exact wpList_append_rd w hgd s x ho base v xs hs hown A c gs hx hr hlen hbase h

/-- A new list of the call's own. -/
def Res (w : World) (fs : List Fl) (e : Ending) (w' : World) : Prop := ∃ A c, e = .returned (.slice A fs.length c) ∧ Own w' w.heap.size A c fs ∧ Below w.heap.size w w'

end Go.Proofs.YtmnbepapgghdaaaGreat.Fl
