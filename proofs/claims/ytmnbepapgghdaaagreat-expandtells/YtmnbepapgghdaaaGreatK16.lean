/-
  Plain mathematics of package expand: tokens whose Params are one digit; what keeps within bounds; what a step leaves behind. No program text in it.
  Maps of whatever values, by texts, that the call itself has made: read, written, deleted from.
  An expansion of package expand in memory: its cells, its rows, its maps; what is kept behind each change.
-/
import Derived.Test.YtmnbepapgghdaaaGreatK14
import Derived.Test.YtmnbepapgghdaaaGreatK15
import Derived.Test.YtmnbepapgghdaaaGreatK02
import Derived.Maps.OwnSet
import Derived.StringKeys
import Derived.WideKeyEntry
namespace Go.Proofs.YtmnbepapgghdaaaGreat

theorem word_size : ∀ (f : Nat) (s : By), s.length ≤ f → (wordG s).1.length ≤ s.length
  | _, [], _ => by simp [wordG]
  | _, [c], _ => by rw [wordG_one]; split <;> simp
  | 0, c :: x :: r, h => by simp at h
  | f + 1, c :: x :: r, h => by
    simp at h
    rw [wordG_two]
    split
    · split
      · have := word_size f r (by omega); simp; omega
      · have := word_size f (x :: r) (by simp; omega); simp at this ⊢; omega
    · simp
theorem one_size (c : UInt8) (r : By) : (one c r).1.2.length ≤ (c :: r).length := by
  unfold one
  split
  · exact word_size _ _ (Nat.le_refl _)
  · split
    · simp
    · split
      · have := lead_le r; simp; omega
      · split
        · simp; omega
        · simp
theorem toks_sizes : ∀ (f : Nat) (s : By), s.length ≤ f → (toks s).length ≤ s.length ∧ ∀ t ∈ toks s, t.2.length ≤ s.length
  | _, [], _ => by simp [toks_nil]
  | 0, c :: r, h => by simp at h
  | f + 1, c :: r, h => by
    have h1 := one_less c r
    have h2 := one_size c r
    simp only [List.length_cons] at h h2 ⊢
    obtain ⟨i1, i2⟩ := toks_sizes f (one c r).2 (by omega)
    rw [toks_cons]
    refine ⟨by simp only [List.length_cons]; omega, fun t ht => ?_⟩
    rcases List.mem_cons.1 ht with rfl | ht
    · exact h2
    · have := i2 t ht; omega
theorem toks_len (s : By) : (toks s).length ≤ s.length := (toks_sizes _ s (Nat.le_refl _)).1
theorem toks_each (s : By) : ∀ t ∈ toks s, t.2.length ≤ s.length := (toks_sizes _ s (Nat.le_refl _)).2
/-- A Param's text is one digit; no text is long. -/
def PT (t : Tok) : Prop := (t.1 = 7 → ∃ d, t.2 = [d] ∧ dgt d = true) ∧ t.2.length ≤ 4000
def PTl (l : List Tok) : Prop := ∀ t ∈ l, PT t
theorem may_pt {t : Tok} (h : mayB t = true) : t.1 = 7 → ∃ d, t.2 = [d] ∧ dgt d = true := fun h7 => by
  rcases may_ways h with ⟨k, _⟩ | ⟨k, _⟩ | ⟨d, rfl, hd⟩ | rfl | rfl | rfl | rfl
  · rw [k] at h7; exact absurd h7 (by decide)
  · rw [k] at h7; exact absurd h7 (by decide)
  · exact ⟨d, rfl, hd⟩
  · exact absurd h7 (by decide)
  · exact absurd h7 (by decide)
  · exact absurd h7 (by decide)
  · exact absurd h7 (by decide)
theorem right_pt : ∀ {l : List Tok}, rightL l = true → ∀ t ∈ l, t.1 = 7 → ∃ d, t.2 = [d] ∧ dgt d = true
  | [], _ => fun t ht => by cases ht
  | [a], h => fun t ht => by
    simp at ht; subst ht
    exact may_pt h
  | a :: b :: r, h => fun t ht => by
    unfold rightL at h
    simp only [Bool.and_eq_true] at h
    rcases List.mem_cons.1 ht with rfl | q
    · exact may_pt h.1.1
    · exact right_pt h.2 t q
theorem toks_pt {s : By} (hs : s.length ≤ 4000) : PTl (toks s) := fun t ht => ⟨right_pt (toks_right s) t ht, Nat.le_trans (toks_each s t ht) hs⟩
/-- No file's text is long. -/
def Short (F : By → Option By) : Prop := ∀ n t, F n = some t → t.length ≤ 4000
def PTe (e : Ex) : Prop := PTl e.inp ∧ ∀ m ∈ e.ms, PTl m.2.2
theorem come_pt {e : Ex} {most : Nat} {n : By} {l : List Tok} (h : PTe e) (hl : PTl l) : PTe (e.come most n l) := by
  unfold Ex.come
  split
  · exact h
  · exact ⟨fun t ht => (List.mem_append.1 ht).elim (hl t) (h.1 t), h.2⟩
theorem go_pt {e : Ex} {p : Nat} (h : PTe e) : PTe (e.go p) := ⟨fun t ht => h.1 t (List.mem_of_mem_drop ht), h.2⟩
theorem burn_pt {e : Ex} (h : PTe e) : PTe e.burn := h
theorem ask_pt {e : Ex} {s : By} (h : PTe e) : PTe (e.ask s) := h
theorem note_pt {e : Ex} {k : Int} {s : By} (h : PTe e) : PTe (e.note k s) := h
theorem body_pt {e : Ex} {s : By} {m : Mv} (h : PTe e) (hg : getL e.ms s = some m) : PTl m.2 := by
  obtain ⟨f, hf, rfl⟩ : ∃ f ∈ e.ms, f.2 = m := ⟨(s, m), getL_mem hg, rfl⟩
  exact h.2 f hf
theorem cmd_pt {ok : By → Bool} {F : By → Option By} {most : Nat} {e e' : Ex} {s : By} (hF : Short F) (h : PTe e) (hc : cmdE ok F most e s = some e') : PTe e' := by
  unfold cmdE at hc
  split at hc
  · cases hc
    unfold defE
    split
    · exact h
    · rename_i x s p ha
      split
      · exact h
      · split
        · refine ⟨(go_pt h).1, fun m hm t ht => ?_⟩
          rcases put_mem hm with rfl | hm
          · exact h.1 t (getD_mem (args_mem (argsW_some ha).1) t ht)
          · exact h.2 m hm t ht
        · exact go_pt h
  · split at hc
    · cases hc
      unfold undefE
      split
      · exact h
      · exact ⟨(go_pt h).1, fun m hm => h.2 m (List.mem_filter.1 hm).1⟩
    · split at hc
      · cases hc
        unfold ifdefE
        split
        · exact h
        · rename_i x s p ha
          refine ⟨fun t ht => ?_, h.2⟩
          have hx := args_mem (argsW_some ha).1
          rcases List.mem_append.1 ht with q | q
          · split at q
            · exact h.1 t (getD_mem hx t q)
            · exact h.1 t (getD_mem hx t q)
          · exact h.1 t (List.mem_of_mem_drop q)
      · split at hc
        · cases hc
          unfold incE
          split
          · exact h
          · split
            · exact go_pt h
            · split
              · exact go_pt h
              · split
                · exact go_pt h
                · split
                  · exact go_pt h
                  · rename_i t ht; exact come_pt (go_pt h) (toks_pt (hF _ _ ht))
        · cases hg : getL e.ms s with
          | none => rw [hg] at hc; cases hc
          | some m =>
            rw [hg] at hc; cases hc
            unfold callE
            split
            · exact h
            · rename_i x p ha
              split
              · exact go_pt h
              · refine come_pt (go_pt h) fun t ht => ?_
                exact (fill_mem (args_mem ha) t ht).elim (body_pt h hg t) (h.1 t)
theorem step_pt {ok : By → Bool} {F : By → Option By} {most : Nat} {e e' : Ex} {b : Bool} (hF : Short F) (h : PTe e) (hc : stepE ok F most e = some (b, e')) : PTe e' := by
  unfold stepE at hc
  split at hc
  · cases hc
  · rename_i t r hi
    have hr : PTe { e with inp := r } := ⟨fun x hx => h.1 x (by rw [hi]; simp [show x ∈ r from hx]), h.2⟩
    split at hc
    · rename_i e2 hq
      cases hc
      split at hq
      · exact cmd_pt hF hr hq
      · cases hq
    · split at hc
      · cases hc; exact hr
      · cases hc; exact hr

/-! ### macros stay good; few files are asked for; a note at most -/
theorem cmd_good {ok : By → Bool} {F : By → Option By} {most : Nat} {e e' : Ex} {s : By} (h : Good e.ms) (hc : cmdE ok F most e s = some e') : Good e'.ms := by
  have kc : ∀ (e : Ex) n l, (e.come most n l).ms = e.ms := fun e n l => by unfold Ex.come; split <;> rfl
  unfold cmdE at hc
  split at hc
  · cases hc
    unfold defE
    split
    · exact h
    · split
      · exact h
      · split
        · rename_i hp; exact putL_good h hp
        · exact h
  · split at hc
    · cases hc
      unfold undefE
      split
      · exact h
      · exact dropL_good h _
    · split at hc
      · cases hc
        unfold ifdefE
        split <;> exact h
      · split at hc
        · cases hc
          unfold incE
          split
          · exact h
          · split
            · exact h
            · split
              · exact h
              · split
                · exact h
                · split
                  · exact h
                  · rw [kc]; exact h
        · cases hg : getL e.ms s with
          | none => rw [hg] at hc; cases hc
          | some m =>
            rw [hg] at hc; cases hc
            unfold callE
            split
            · exact h
            · split
              · exact h
              · rw [kc]; exact h
theorem cmd_reads32 {ok : By → Bool} {F : By → Option By} {most : Nat} {e e' : Ex} {s : By} (h : e.reads.length ≤ 32) (hc : cmdE ok F most e s = some e') : e'.reads.length ≤ 32 := by
  unfold cmdE at hc
  split at hc
  · cases hc
    unfold defE
    split
    · exact h
    · split
      · exact h
      · split <;> exact h
  · split at hc
    · cases hc
      unfold undefE
      split <;> exact h
    · split at hc
      · cases hc
        unfold ifdefE
        split <;> exact h
      · split at hc
        · cases hc
          unfold incE
          split
          · exact h
          · split
            · exact h
            · split
              · exact h
              · split
                · exact h
                · rename_i x n p ha h1 h2 h3
                  have hk : (((e.go p).burn.ask n).reads).length ≤ 32 := by
                    show (if n ∈ e.reads then e.reads else e.reads ++ [n]).length ≤ 32
                    split
                    · exact h
                    · rename_i hn
                      rw [List.length_append, List.length_singleton]
                      have : ¬ 32 ≤ e.reads.length := fun q => h2 ⟨q, hn⟩
                      omega
                  split
                  · exact hk
                  · rw [come_reads]; exact hk
        · cases hg : getL e.ms s with
          | none => rw [hg] at hc; cases hc
          | some m =>
            rw [hg] at hc; cases hc
            unfold callE
            split
            · exact h
            · split
              · exact h
              · rw [come_reads]; exact h
theorem note_one (e : Ex) (k : Int) (s : By) : (e.note k s).notes.length ≤ e.notes.length + 1 := by simp [Ex.note]
theorem come_one (e : Ex) (most : Nat) (n : By) (l : List Tok) : (e.come most n l).notes.length ≤ e.notes.length + 1 := by
  unfold Ex.come
  split
  · exact note_one _ _ _
  · exact Nat.le_succ _
theorem cmd_note1 {ok : By → Bool} {F : By → Option By} {most : Nat} {e e' : Ex} {s : By} (hc : cmdE ok F most e s = some e') : e'.notes.length ≤ e.notes.length + 1 := by
  unfold cmdE at hc
  split at hc
  · cases hc
    unfold defE
    split
    · exact note_one _ _ _
    · split
      · exact note_one _ _ _
      · split
        · exact Nat.le_succ _
        · exact note_one _ _ _
  · split at hc
    · cases hc
      unfold undefE
      split
      · exact note_one _ _ _
      · exact Nat.le_succ _
    · split at hc
      · cases hc
        unfold ifdefE
        split
        · exact note_one _ _ _
        · exact Nat.le_succ _
      · split at hc
        · cases hc
          unfold incE
          split
          · exact note_one _ _ _
          · split
            · exact note_one _ _ _
            · split
              · exact note_one _ _ _
              · split
                · exact note_one _ _ _
                · split
                  · exact note_one _ _ _
                  · exact come_one _ _ _ _
        · cases hg : getL e.ms s with
          | none => rw [hg] at hc; cases hc
          | some m =>
            rw [hg] at hc; cases hc
            unfold callE
            split
            · exact note_one _ _ _
            · split
              · exact note_one _ _ _
              · exact come_one _ _ _ _
theorem cmd_bods {ok : By → Bool} {F : By → Option By} {most B : Nat} {e e' : Ex} {s : By} (hl : e.inp.length ≤ B) (h : ∀ m ∈ e.ms, m.2.2.length ≤ B) (hc : cmdE ok F most e s = some e') : ∀ m ∈ e'.ms, m.2.2.length ≤ B := by
  have kc : ∀ (e : Ex) n l, (e.come most n l).ms = e.ms := fun e n l => by unfold Ex.come; split <;> rfl
  unfold cmdE at hc
  split at hc
  · cases hc
    unfold defE
    split
    · exact h
    · rename_i x s p ha
      split
      · exact h
      · split
        · intro m hm
          rcases put_mem hm with rfl | hm
          · obtain ⟨_, h2, h3⟩ := args_part (argsW_some ha).1 (Nat.zero_le _)
            have := getD_len (i := 2) h3
            show (x.getD 2 []).length ≤ B
            omega
          · exact h m hm
        · exact h
  · split at hc
    · cases hc
      unfold undefE
      split
      · exact h
      · exact fun m hm => h m (List.mem_filter.1 hm).1
    · split at hc
      · cases hc
        unfold ifdefE
        split <;> exact h
      · split at hc
        · cases hc
          unfold incE
          split
          · exact h
          · split
            · exact h
            · split
              · exact h
              · split
                · exact h
                · split
                  · exact h
                  · rw [kc]; exact h
        · cases hg : getL e.ms s with
          | none => rw [hg] at hc; cases hc
          | some m =>
            rw [hg] at hc; cases hc
            unfold callE
            split
            · exact h
            · split
              · exact h
              · rw [kc]; exact h
/-- What all steps keep. C: a bound on what grows by one a step at most. -/
structure Fine (most B C : Nat) (e : Ex) : Prop where
  pt : PTe e
  good : Good e.ms
  len : e.inp.length ≤ B
  bods : ∀ m ∈ e.ms, m.2.2.length ≤ B
  reads : e.reads.length ≤ 32
  out : e.out.length ≤ most
  notes : e.notes.length + mu B e ≤ C
theorem step_fine {ok : By → Bool} {F : By → Option By} {most B C : Nat} {e e' : Ex} {b : Bool} (hF : Short F) (hm : most ≤ B) (h : Fine most B C e) (hc : stepE ok F most e = some (b, e')) : Fine most B C e' := by
  have hl := step_len hc hm h.len
  refine ⟨step_pt hF h.pt hc, ?_, hl, ?_, ?_, step_out hc h.out, ?_⟩
  · unfold stepE at hc
    split at hc
    · cases hc
    · split at hc
      · rename_i hq
        cases hc
        split at hq
        · exact cmd_good (by exact h.good) hq
        · cases hq
      · split at hc <;> (cases hc; exact h.good)
  · unfold stepE at hc
    split at hc
    · cases hc
    · rename_i t r hi
      have hr : r.length ≤ B := by have := h.len; rw [hi] at this; simp at this; omega
      split at hc
      · rename_i hq
        cases hc
        split at hq
        · exact cmd_bods (by exact hr) (by exact h.bods) hq
        · cases hq
      · split at hc <;> (cases hc; exact h.bods)
  · unfold stepE at hc
    split at hc
    · cases hc
    · split at hc
      · rename_i hq
        cases hc
        split at hq
        · exact cmd_reads32 (by exact h.reads) hq
        · cases hq
      · split at hc <;> (cases hc; exact h.reads)
  · have hmu := mu_less (step_less hc) hl
    have hn : e'.notes.length ≤ e.notes.length + 1 := by
      unfold stepE at hc
      split at hc
      · cases hc
      · split at hc
        · rename_i hq
          cases hc
          split at hq
          · have q := cmd_note1 hq
            exact q
          · cases hq
        · split at hc
          · cases hc; exact note_one _ _ _
          · cases hc; exact Nat.le_succ _
    have := h.notes
    omega
/-! ### where it ends, nothing is to come any more -/
def stopE (e : Ex) : Ex := { e with inp := [] }
/-- One step; what is to come is thrown away where it ends there. -/
def stepL (ok : By → Bool) (F : By → Option By) (most : Nat) (e : Ex) : Ex := match stepE ok F most e with
  | none => e
  | some (true, e') => e'
  | some (false, e') => stopE e'
def outX (e : Ex) : List Tok × List By × List (Int × By) × Nat := (e.out, e.reads, e.notes, e.used)
theorem run_end {ok : By → Bool} {F : By → Option By} {most : Nat} {e : Ex} (h : e.inp = []) : runE ok F most e = e := run_none (by unfold stepE; rw [h])
theorem run_stepL {ok : By → Bool} {F : By → Option By} {most : Nat} {e : Ex} : outX (runE ok F most (stepL ok F most e)) = outX (runE ok F most e) := by
  unfold stepL
  cases h : stepE ok F most e with
  | none => rfl
  | some x =>
    obtain ⟨b, e'⟩ := x
    cases b
    · rw [run_stop h]
      show outX (runE ok F most (stopE e')) = _
      rw [run_end (e := stopE e') rfl]; rfl
    · rw [run_next h]
theorem stop_fine {most B C : Nat} {e : Ex} (h : Fine most B C e) : Fine most B C (stopE e) :=
  ⟨⟨fun t ht => (by cases ht), h.pt.2⟩, h.good, Nat.zero_le _, h.bods, h.reads, h.out, by have := h.notes; unfold mu at *; show e.notes.length + (e.fuel * (B + 1) + 0) ≤ C; omega⟩
theorem stepL_fine {ok : By → Bool} {F : By → Option By} {most B C : Nat} {e : Ex} (hF : Short F) (hm : most ≤ B) (h : Fine most B C e) : Fine most B C (stepL ok F most e) := by
  unfold stepL
  cases hs : stepE ok F most e with
  | none => exact h
  | some x =>
    obtain ⟨b, e'⟩ := x
    cases b
    · exact stop_fine (step_fine hF hm h hs)
    · exact step_fine hF hm h hs
theorem stepL_mu {ok : By → Bool} {F : By → Option By} {most B C : Nat} {e : Ex} (hm : most ≤ B) (h : Fine most B C e) (h0 : e.inp ≠ []) : mu B (stepL ok F most e) < mu B e := by
  unfold stepL
  cases hs : stepE ok F most e with
  | none =>
    unfold stepE at hs
    split at hs
    · rename_i hi; exact absurd hi h0
    · split at hs
      · cases hs
      · split at hs <;> cases hs
  | some x =>
    obtain ⟨b, e'⟩ := x
    have hl := step_len hs hm h.len
    have hmu := mu_less (step_less hs) hl
    cases b
    · refine Nat.lt_of_le_of_lt ?_ hmu
      show mu B (stopE e') ≤ mu B e'
      unfold mu stopE
      simp
    · exact hmu
theorem step_some {ok : By → Bool} {F : By → Option By} {most : Nat} {e : Ex} {t : Tok} {r : List Tok} (hi : e.inp = t :: r) :
    stepL ok F most e = match (if t.1 = 4 then cmdE ok F most { e with inp := r } t.2 else none) with
      | some e2 => e2
      | none => if most ≤ e.out.length then Ex.note (stopE e) 3 [] else { e with inp := r, out := e.out ++ [t] } := by
  unfold stepL stepE
  rw [hi]
  simp only
  cases (if t.1 = 4 then cmdE ok F most { e with inp := r } t.2 else none) with
  | some e2 => rfl
  | none =>
    simp only
    by_cases ho : most ≤ e.out.length
    · simp only [if_pos ho]; rfl
    · simp only [if_neg ho]

/-! ### what a command answers, and what is noted behind it -/
/-- Noted, if anything is wrong. -/
def noted (e : Ex) (n : By) : Option Int → Ex
  | none => e
  | some k => e.note k n
/-- Groups that are not there give no name: the command's own is told. -/
def nameF (o : Option Int) (n s : By) : By := if o = some 10 then s else n

/-! ### how long what is filled is -/
theorem fill_bound {x : List (List Tok)} {B : Nat} (hx : ∀ y ∈ x, y.length ≤ B) (hB : 1 ≤ B) : ∀ (b : List Tok), (fillL b x).length ≤ b.length * B
  | [] => by simp [fillL]
  | t :: r => by
    have h1 : (fillT x t).length ≤ B := by
      unfold fillT
      split
      · unfold argOf
        split
        · split
          · exact getD_len hx
          · exact Nat.zero_le _
        · exact Nat.zero_le _
      · exact hB
    have h2 := fill_bound hx hB r
    have e : fillL (t :: r) x = fillT x t ++ fillL r x := by simp [fillL]
    rw [e, List.length_append, List.length_cons, Nat.add_mul]
    omega
/-! ### macros without their bodies -/
def bare (m : Ml) : Ml := (m.1, m.2.1, [])
def bares (ms : List Ml) : List Ml := ms.map bare
theorem wr_bare (m : Ml) : wrE (bare m) = wrE m := rfl
theorem has_bare (ms : List Ml) (n : By) : hasL (bares ms) n = hasL ms n := by
  unfold hasL bares
  rw [List.any_map]; rfl
theorem drop_bare (ms : List Ml) (n : By) : dropL (bares ms) n = bares (dropL ms n) := by
  unfold dropL bares
  rw [List.filter_map]; rfl
theorem put_bare (ms : List Ml) (m : Ml) : putL (bares ms) (bare m) = bares (putL ms m) := by
  unfold putL
  rw [show (bare m).1 = m.1 from rfl, drop_bare]
  unfold bares
  rw [List.map_append, List.map_cons, List.takeWhile_map, List.dropWhile_map]
  rfl
theorem putE_bare (ms : List Ml) (m : Ml) : putE (bares ms) (bare m) = putE ms m := by
  unfold putE
  rw [wr_bare, show (bare m).1 = m.1 from rfl, has_bare, show (bares ms).length = ms.length from List.length_map _]
theorem get_bare (ms : List Ml) (n : By) : getL (bares ms) n = (getL ms n).map fun v => (v.1, []) := by
  unfold getL bares
  rw [List.find?_map]
  show ((ms.find? fun f => f.1 == n).map bare).map (·.2) = _
  cases ms.find? fun f => f.1 == n <;> rfl
theorem good_bare {ms : List Ml} (h : Good ms) : Good (bares ms) := by
  refine ⟨?_, by unfold bares; rw [List.length_map]; exact h.2.1, fun f hf => ?_⟩
  · unfold Sorted bares
    rw [List.pairwise_map]
    exact h.1
  · obtain ⟨m, hm, rfl⟩ := List.mem_map.1 hf
    exact h.2.2 m hm
end Go.Proofs.YtmnbepapgghdaaaGreat

namespace Go.Proofs.YtmnbepapgghdaaaGreat
open Go.RowKit

/-- How a value that a map holds reads: as itself. -/
def anyElem (v : Value) : Option (DataW Value × List MemPlace) := some (.held v, [])
theorem zero27 (w : World) : (zeroValue 27).run Tryz.prog w = .ok (.slice none 0 0) w := by kernel_rfl
theorem und65 : Tryz.prog.underlying 65 = some (.map 9 27) := by kernel_rfl
theorem law9 : Maps.Keyed Tryz.prog 9 := Maps.string_keyed Tryz.underlying9
def BM (w : World) (m N : Nat) (f : By → Option Value) : Prop :=
  ∃ D : DataW Value, w.ownsMap Tryz.prog 9 anyElem m N D ∧ ∀ (s : By) (z : Value), D.atKey (.string s) (.held z) = .held ((f s).getD z) ∧ Maps.has D (.string s) = (f s).isSome
theorem BM.block {w : World} {m N : Nat} {f : By → Option Value} (h : BM w m N f) : ∃ es clock, w.heap[m]? = some (.map es clock) := by
  obtain ⟨D, ⟨es, clock, hb, _⟩, _⟩ := h
  exact ⟨es, clock, hb⟩
theorem BM.of_block {w w' : World} {m N : Nat} {f : By → Option Value} (h : BM w m N f) (hb : w'.heap[m]? = w.heap[m]?) : BM w' m N f := by
  obtain ⟨D, ⟨es, clock, h1, h2⟩, h3⟩ := h
  exact ⟨D, ⟨es, clock, hb.trans h1, h2⟩, h3⟩
theorem BM.lt {w : World} {m N : Nat} {f : By → Option Value} (h : BM w m N f) : m < w.heap.size := by obtain ⟨es, c, hb⟩ := h.block; exact lt_of_blk hb
theorem BM.made (w : World) : BM (w.alloc (.map #[] 0)) w.heap.size 0 (fun _ => none) := ⟨.map [], World.ownsMap_made _ _ _ _, fun _ _ => ⟨rfl, rfl⟩⟩
theorem key_of {s : By} (hs : s.length ≤ 100000) : keyOf Tryz.prog 9 (.string ⟨s.toArray⟩) = some (.string s) := by
  have := WideMaps.keyOf_string_mk (P := Tryz.prog) (k := 9) Tryz.underlying9 (s := ⟨s.toArray⟩) (by show s.toArray.size ≤ maxLen; unfold maxLen; simp; omega)
  simpa using this
theorem held_inj {a b : Value} (h : (DataW.held a : DataW Value) = .held b) : a = b := by injection h
theorem BM.look {w : World} {m N : Nat} {f : By → Option Value} (h : BM w m N f) {t e : TypeId} (ht : Tryz.prog.underlying t = some (.map 9 e)) {z : Value} (hz : (zeroValue e).run Tryz.prog w = .ok z w) {s : By} (hs : s.length ≤ 100000) :
    (Instr.lookup t (.map (some m)) (.string ⟨s.toArray⟩) true).run Tryz.prog w = .ok (.tuple #[(f s).getD z, .bool (f s).isSome]) w := by
  obtain ⟨D, ho, hf⟩ := h
  obtain ⟨v, ps, hrun, hv⟩ := ho.look_ok law9 ht hz (zd := .held z) (zp := []) rfl (key_of hs)
  rw [(hf s z).1] at hv
  have := held_inj (Prod.mk.inj (Option.some.inj hv)).1
  rw [hrun, this, (hf s z).2]
theorem BM.look1 {w : World} {m N : Nat} {f : By → Option Value} (h : BM w m N f) {t e : TypeId} (ht : Tryz.prog.underlying t = some (.map 9 e)) {z : Value} (hz : (zeroValue e).run Tryz.prog w = .ok z w) {s : By} (hs : s.length ≤ 100000) :
    (Instr.lookup t (.map (some m)) (.string ⟨s.toArray⟩) false).run Tryz.prog w = .ok ((f s).getD z) w := by
  obtain ⟨D, ho, hf⟩ := h
  obtain ⟨v, ps, hrun, hv⟩ := ho.lookup law9 ht hz (zd := .held z) (zp := []) rfl (key_of hs)
  rw [(hf s z).1] at hv
  have := held_inj (Prod.mk.inj (Option.some.inj hv)).1
  rw [hrun, this]
theorem lit_ne {s r : By} (h : s ≠ r) : (Lit.string s) ≠ Lit.string r := fun e => h (by injection e)
theorem put_fun {D : DataW Value} {f : By → Option Value} (hm : Maps.IsMap D) (hf : ∀ (s : By) (z : Value), D.atKey (.string s) (.held z) = .held ((f s).getD z) ∧ Maps.has D (.string s) = (f s).isSome) (r : By) (v : Value) :
    ∀ (s : By) (z : Value), (D.put (.string r) (.held v)).atKey (.string s) (.held z) = .held (((fun i => if i = r then some v else f i) s).getD z) ∧ Maps.has (D.put (.string r) (.held v)) (.string s) = ((fun i => if i = r then some v else f i) s).isSome := fun s z => by
  by_cases hsr : s = r
  · subst hsr
    rw [Maps.atKey_put_same hm (k := .string s) trivial, Maps.has_put_same hm (k := .string s) trivial]
    simp
  · rw [Maps.atKey_put_other (lit_ne hsr), Maps.has_put_other (lit_ne hsr)]
    simp only [if_neg hsr]
    exact hf s z
theorem BM.store {w : World} {m N : Nat} {f : By → Option Value} (h : BM w m N f) {t e : TypeId} (ht : Tryz.prog.underlying t = some (.map 9 e)) {r : By} (v : Value) (hr : r.length ≤ 100000) (hN : N ≤ 1000000) :
    ∃ w', (Instr.mapUpdate t (.map (some m)) (.string ⟨r.toArray⟩) v).run Tryz.prog w = .ok () w' ∧ BM w' m (N + 1) (fun i => if i = r then some v else f i) ∧ w.grownBy w' (some m) := by
  obtain ⟨D, ho, hf⟩ := h
  obtain ⟨w', hrun, hown, hturn⟩ := ho.store law9 ht (by unfold maxLen; omega) (key_of hr) (val := v) (d := .held v) (ps := []) rfl
  exact ⟨w', hrun, ⟨_, hown, put_fun ho.isMap hf r v⟩, hturn.grown⟩
theorem BM.del {w : World} {m N : Nat} {f : By → Option Value} (h : BM w m N f) {t e : TypeId} (ht : Tryz.prog.underlying t = some (.map 9 e)) {r : By} (hr : r.length ≤ 100000) (ty : TypeId) :
    ∃ w', (Builtin.delete_ #[t, 9] ty #[.map (some m), .string ⟨r.toArray⟩]).run Tryz.prog w = .ok (.tuple #[]) w' ∧ BM w' m N (fun i => if i = r then none else f i) ∧ w.grownBy w' (some m) := by
  obtain ⟨D, ho, hf⟩ := h
  obtain ⟨w', hrun, hown, hturn⟩ := ho.drop law9 ht (key_of hr) ty
  refine ⟨w', hrun, ⟨_, hown, fun s z => ?_⟩, hturn.grown⟩
  by_cases hsr : s = r
  · subst hsr
    rw [Maps.atKey_del_same, Maps.has_del_same]
    simp
  · rw [Maps.atKey_del_other (lit_ne hsr), Maps.has_del_other (lit_ne hsr)]
    simp only [if_neg hsr]
    exact hf s z
/-- An entry that is made ready, and filled behind that: in whatever worlds the map's block is so. -/
theorem BM.entry {w : World} {m N : Nat} {f : By → Option Value} (h : BM w m N f) {t e : TypeId} (ht : Tryz.prog.underlying t = some (.map 9 e)) {z : Value} (hz : ∀ u : World, (zeroValue e).run Tryz.prog u = .ok z u) {r : By} (v : Value) (hr : r.length ≤ 100000) (hN : N ≤ 1000000) :
    ∃ v0 st w1, (Instr.mapEntry t (.map (some m)) (.string ⟨r.toArray⟩)).run Tryz.prog w = .ok (.tuple #[v0, goInt st]) w1 ∧ w.grownBy w1 (some m) ∧
      ∀ w2 : World, w2.heap[m]? = w1.heap[m]? → ∃ w3, (Instr.entryStore t (.map (some m)) (goInt st) v).run Tryz.prog w2 = .ok () w3 ∧ BM w3 m (N + 1) (fun i => if i = r then some v else f i) ∧ w2.grownBy w3 (some m) := by
  obtain ⟨w', hrun', hbm', hg'⟩ := h.store ht v hr hN
  obtain ⟨D, ho, hf⟩ := h
  obtain ⟨es, clock, hb, F, hs, rfl⟩ := ho
  obtain ⟨v0, st, es1, clock1, h1, _, h3⟩ := WideElems.entry_then_store (WideMaps.string_law Tryz.underlying9) ht hz hb F (key_of hr)
  refine ⟨v0, st, _, h1, ?_, fun w2 hw2 => ?_⟩
  · exact (World.mapTurned.grown ⟨es, clock, es1, clock1, hb, rfl⟩)
  · have hb1 : (ChangeMaps.setBlock w m (.map es1 clock1)).heap[m]? = some (.map es1 clock1) := Go.ChangeMaps.heap_setBlock_same hb _
    obtain ⟨es', clock', k1, k2⟩ := h3 w2 v (hw2.trans hb1)
    refine ⟨_, k1, ?_, World.mapTurned.grown ⟨es1, clock1, es', clock', hw2.trans hb1, rfl⟩⟩
    rw [k2] at hrun'
    have e' : ChangeMaps.setBlock w m (.map es' clock') = w' := by injection hrun'
    refine hbm'.of_block ?_
    rw [Go.ChangeMaps.heap_setBlock_same (hw2.trans hb1), ← e', Go.ChangeMaps.heap_setBlock_same hb]
end Go.Proofs.YtmnbepapgghdaaaGreat

namespace Go.Proofs.YtmnbepapgghdaaaGreat
open Go.RowKit

/-- What stays the same of an expansion: where it lies, the files, its bounds, its two maps. -/
structure Xk where
  base : Nat
  p : Nat
  FA : Option Addr
  fn : Nat
  fc : Nat
  fuel : Nat
  most : Nat
  cb : Nat
  mb : Nat
/-- What turns: rows, and how far the tokens are taken away. -/
structure Xs where
  MA : Option Addr
  mc : Nat
  TA : Option Addr
  tc : Nat
  full : List Tok
  at_ : Nat
  LA : Option Addr
  lc : Nat
  RA : Option Addr
  rc : Nat
  NA : Option Addr
  nc : Nat
  N : Nat
  f : By → Option Value
/-- An expansion's own cells. -/
def xC (k : Xk) (s : Xs) (e : Ex) : Array Value :=
  #[.slice k.FA k.fn k.fc, .int .i64 k.fuel, .int .i64 k.most, .map (some k.cb), .slice s.MA e.ms.length s.mc, .map (some k.mb), .slice s.TA s.full.length s.tc, .int .i64 s.at_, .slice s.LA e.out.length s.lc, .slice s.RA e.reads.length s.rc, .slice s.NA e.notes.length s.nc, .int .i64 e.used]
/-- The commands' map. -/
def cmdF (s : By) : Option Value :=
  if s = sDef then some (.func (Fn.func 44) #[] #[]) else if s = sUndef then some (.func (Fn.func 45) #[] #[]) else if s = sIfdef then some (.func (Fn.func 46) #[] #[]) else if s = sInc then some (.func (Fn.func 47) #[] #[]) else none
/-- In none of the blocks that are written. -/
def Gx (p : Nat) (s : Xs) (b : Nat) : Prop := b ≠ p ∧ some b ≠ obA s.TA ∧ some b ≠ obA s.LA ∧ some b ≠ obA s.RA ∧ some b ≠ obA s.NA
/-- The bodies of macros, each in such blocks. -/
def Bodies (P : Nat → Prop) (w : World) (ms : List Ml) (f : By → Option Value) : Prop :=
  ∀ (n : By) (v : Mv), getL ms n = some v → ∃ (B : Option Addr) (d : Nat), f n = some (.slice B v.2.length d) ∧ Rd w B v.2 ∧ InQ P B v.2.length
structure XR (k : Xk) (w : World) (s : Xs) (e : Ex) : Prop where
  hp : k.base ≤ k.p
  hm : k.base ≤ k.mb
  blk : w.heap[k.p]? = some (.cells (xC k s e) 68)
  fuel : k.fuel = e.fuel + e.used
  atl : s.at_ ≤ s.full.length
  flen : s.full.length ≤ 100000
  inp : s.full.drop s.at_ = e.inp
  toks : Own 89 w k.base s.TA s.tc s.full
  out : Own 89 w k.base s.LA s.lc e.out
  tl : ∀ g, obA s.TA = some g → obA s.LA ≠ some g
  reads : OwnT w k.base s.RA s.rc e.reads
  notes : Own 86 w k.base s.NA s.nc e.notes
  bm : BM w k.mb s.N s.f
  cm : BM w k.cb 4 cmdF
  mne : k.cb ≠ k.mb
  ms : RdM w s.MA (bares e.ms)
  msc : e.ms.length ≤ s.mc ∧ s.mc ≤ 9223372036854775807
  msP : InQ (Gx k.p s) s.MA e.ms.length
  bd : Bodies (Gx k.p s) w e.ms s.f
/-- An expansion that goes on; n: a bound on how many entries its map of bodies has. -/
def XW (k : Xk) (w : World) (e : Ex) (n : Nat) : Prop := ∃ s : Xs, XR k w s e ∧ s.N ≤ n

/-! ### rows and maps lie apart -/
theorem row_ne {w : World} {base t s n b : Nat} {v : Value} {xs : List Value} {cs : Array Value} {t2 : TypeId} {fr : Nat × Nat} (h : w.ownsRow base t s v n xs) (hb : w.heap[b]? = some (.cells cs t2 fr)) (ht : t ≠ t2) : v.ownBlock ≠ some b := fun e => by
  rcases h.2 with ⟨rfl, _⟩ | ⟨g1, cap1, cur1, rfl, _, hg1, _⟩
  · cases e
  · have e' : g1 = b := by cases e; rfl
    subst e'
    rw [hb] at hg1
    simp only [Option.some.injEq, Obj.cells.injEq] at hg1
    exact ht hg1.2.1.symm
theorem row_map {w : World} {base t s n m : Nat} {v : Value} {xs : List Value} {es : Array MapEntry} {c : Nat} (h : w.ownsRow base t s v n xs) (hb : w.heap[m]? = some (.map es c)) : v.ownBlock ≠ some m := fun e => by
  rcases h.2 with ⟨rfl, _⟩ | ⟨g1, cap1, cur1, rfl, _, hg1, _⟩
  · cases e
  · have e' : g1 = m := by cases e; rfl
    subst e'
    rw [hb] at hg1
    cases hg1
theorem hold_bare {w w' : World} {g g' : Option Nat} : ∀ {ms : List Ml} {cs : List Value}, HoldM w g (bares ms) cs → HoldM w' g' (bares ms) cs
  | [], _, h => h
  | m :: r, _, h => by
    obtain ⟨B, d, cs', rfl, h1, h2, h3⟩ := h
    exact ⟨B, d, cs', rfl, Rd.empty _ _, fun h0 => absurd h0 (by simp [bare]), hold_bare h3⟩
theorem bares_len (ms : List Ml) : (bares ms).length = ms.length := List.length_map _
theorem rdM_bare {w w' : World} {A : Option Addr} {ms : List Ml} (h : RdM w A (bares ms)) (hA : 0 < ms.length → ∀ a, A = some a → w'.heap[a.block]? = w.heap[a.block]?) : RdM w' A (bares ms) := fun h0 => by
  obtain ⟨b, o, cs, rfl, hh, hc⟩ := h h0
  have e := hA (by rw [← bares_len]; exact h0) _ rfl
  simp only at e
  have q : ∀ j, w'.cell? ⟨b, j, none⟩ = w.cell? ⟨b, j, none⟩ := fun j => by simp only [World.cell?, e]
  exact ⟨b, o, cs, rfl, hold_bare hh, fun j u hu => (q _).trans (hc j u hu)⟩
theorem rdM_lt {w : World} {A : Option Addr} {ms : List Ml} (h : RdM w A (bares ms)) : InQ (· < w.heap.size) A ms.length := fun h0 a ha => by
  obtain ⟨b, o, e, hc⟩ := h.cells (by rw [bares_len]; exact h0)
  obtain ⟨f, hf0⟩ : ∃ f, (bares ms)[0]? = some f := ⟨_, List.getElem?_eq_getElem (by rw [bares_len]; exact h0)⟩
  obtain ⟨B, d, h1, _⟩ := hc 0 f hf0
  have hl := World.block_lt_of_cell? w _ h1
  rw [e] at ha
  cases ha
  exact hl
theorem rd_cells {w : World} {A : Option Addr} {l : List Tok} (h : Rd w A l) : InQ (fun b => ∃ cs t fr, w.heap[b]? = some (.cells cs t fr)) A l.length := fun h0 a ha => by
  obtain ⟨b, o, e, hc⟩ := h h0
  obtain ⟨f, hf0⟩ : ∃ f, l[0]? = some f := ⟨_, List.getElem?_eq_getElem h0⟩
  have h1 := (hc 0 f hf0).1
  rw [e] at ha
  cases ha
  unfold World.cell? at h1
  split at h1
  · rename_i cs t fr hb; exact ⟨cs, t, fr, hb⟩
  · cases h1
theorem rdM_cells {w : World} {A : Option Addr} {ms : List Ml} (h : RdM w A (bares ms)) : InQ (fun b => ∃ cs t fr, w.heap[b]? = some (.cells cs t fr)) A ms.length := fun h0 a ha => by
  obtain ⟨b, o, e, hc⟩ := h.cells (by rw [bares_len]; exact h0)
  obtain ⟨f, hf0⟩ : ∃ f, (bares ms)[0]? = some f := ⟨_, List.getElem?_eq_getElem (by rw [bares_len]; exact h0)⟩
  obtain ⟨B, d, h1, _⟩ := hc 0 f hf0
  rw [e] at ha
  cases ha
  unfold World.cell? at h1
  split at h1
  · rename_i cs t fr hb; exact ⟨cs, t, fr, hb⟩
  · cases h1
section
variable {k : Xk} {w w' : World} {s : Xs} {e : Ex}
theorem XR.nTp (h : XR k w s e) : obA s.TA ≠ some k.p := by rw [← obA_own s.TA _ s.tc]; exact row_ne h.toks h.blk (by decide)
theorem XR.nLp (h : XR k w s e) : obA s.LA ≠ some k.p := by rw [← obA_own s.LA _ s.lc]; exact row_ne h.out h.blk (by decide)
theorem XR.nRp (h : XR k w s e) : obA s.RA ≠ some k.p := by rw [← obA_own s.RA _ s.rc]; exact row_ne h.reads h.blk (by decide)
theorem XR.nNp (h : XR k w s e) : obA s.NA ≠ some k.p := by rw [← obA_own s.NA _ s.nc]; exact row_ne h.notes h.blk (by decide)
theorem XR.mp (h : XR k w s e) : k.mb ≠ k.p := fun q => by obtain ⟨es, c, hb⟩ := h.bm.block; rw [q, h.blk] at hb; cases hb
theorem XR.cp (h : XR k w s e) : k.cb ≠ k.p := fun q => by obtain ⟨es, c, hb⟩ := h.cm.block; rw [q, h.blk] at hb; cases hb
theorem XR.row_m (h : XR k w s e) : obA s.TA ≠ some k.mb ∧ obA s.LA ≠ some k.mb ∧ obA s.RA ≠ some k.mb ∧ obA s.NA ≠ some k.mb := by
  obtain ⟨es, c, hb⟩ := h.bm.block
  refine ⟨?_, ?_, ?_, ?_⟩
  · rw [← obA_own s.TA _ s.tc]; exact row_map h.toks hb
  · rw [← obA_own s.LA _ s.lc]; exact row_map h.out hb
  · rw [← obA_own s.RA _ s.rc]; exact row_map h.reads hb
  · rw [← obA_own s.NA _ s.nc]; exact row_map h.notes hb
theorem XR.row_c (h : XR k w s e) : obA s.TA ≠ some k.cb ∧ obA s.LA ≠ some k.cb ∧ obA s.RA ≠ some k.cb ∧ obA s.NA ≠ some k.cb := by
  obtain ⟨es, c, hb⟩ := h.cm.block
  refine ⟨?_, ?_, ?_, ?_⟩
  · rw [← obA_own s.TA _ s.tc]; exact row_map h.toks hb
  · rw [← obA_own s.LA _ s.lc]; exact row_map h.out hb
  · rw [← obA_own s.RA _ s.rc]; exact row_map h.reads hb
  · rw [← obA_own s.NA _ s.nc]; exact row_map h.notes hb
theorem XR.aTR (h : XR k w s e) : ∀ g, obA s.TA = some g → obA s.RA ≠ some g := by have := rows_apart h.toks h.reads (by decide); simpa only [obA_own] using this
theorem XR.aTN (h : XR k w s e) : ∀ g, obA s.TA = some g → obA s.NA ≠ some g := by have := rows_apart h.toks h.notes (by decide); simpa only [obA_own] using this
theorem XR.aLR (h : XR k w s e) : ∀ g, obA s.LA = some g → obA s.RA ≠ some g := by have := rows_apart h.out h.reads (by decide); simpa only [obA_own] using this
theorem XR.aLN (h : XR k w s e) : ∀ g, obA s.LA = some g → obA s.NA ≠ some g := by have := rows_apart h.out h.notes (by decide); simpa only [obA_own] using this
theorem XR.aRN (h : XR k w s e) : ∀ g, obA s.RA = some g → obA s.NA ≠ some g := by have := rows_apart h.reads h.notes (by decide); simpa only [obA_own] using this
/-- All but one block is as it was. -/
def ButX (X : Option Nat) (w w' : World) : Prop := ∀ b, b < w.heap.size → some b ≠ X → w'.heap[b]? = w.heap[b]?
theorem but_grown {X : Option Nat} (h : w.grownBy w' X) : ButX X w w' := fun b hb hn => by obtain ⟨_, _, _, _, q⟩ := h; exact q b hb hn
theorem but_below (h : Below w.heap.size w w') : ButX none w w' := fun b hb _ => h.block b hb
theorem but_set (p j : Nat) (v : Value) : ButX (some p) w (w.setCell ⟨p, j, none⟩ v) := fun b _ hn => Below.heap_setCell w ⟨p, j, none⟩ v b (fun e => hn (by rw [e]))
theorem own_but {t : TypeId} {base sz n c : Nat} {A : Option Addr} {xs : List Value} {X : Option Nat} (h : w.ownsRow base t sz (.slice A n c) n xs) (hk : ButX X w w') (hX : ∀ g, obA A = some g → some g ≠ X) : w'.ownsRow base t sz (.slice A n c) n xs :=
  row_keep h fun g hg => hk g (h.lt g hg).2 (hX g (by rw [← obA_own A n c]; exact hg))
theorem bm_but {m N : Nat} {f : By → Option Value} {X : Option Nat} (h : BM w m N f) (hk : ButX X w w') (hX : some m ≠ X) : BM w' m N f := h.of_block (hk m h.lt hX)
/-- What is but read stays, where no block of it is turned, and what is written from now on lies in the same blocks, or in new ones. -/
theorem XR.rest (h : XR k w s e) {X : Option Nat} (hk : ButX X w w') (hX : ∀ b, b < w.heap.size → some b = X → ¬ Gx k.p s b ∨ b = k.mb) {s' : Xs} (hG : ∀ b, b < w.heap.size → Gx k.p s b → Gx k.p s' b) (hMA : s'.MA = s.MA) (hf : s'.f = s.f) :
    RdM w' s'.MA (bares e.ms) ∧ InQ (Gx k.p s') s'.MA e.ms.length ∧ Bodies (Gx k.p s') w' e.ms s'.f := by
  obtain ⟨es, c, hb⟩ := h.bm.block
  have far : ∀ b, b < w.heap.size → Gx k.p s b → (∃ cs t fr, w.heap[b]? = some (.cells cs t fr)) → w'.heap[b]? = w.heap[b]? := fun b hl hg hc => hk b hl fun q => by
    rcases hX b hl q with n | n
    · exact n hg
    · obtain ⟨cs, t, fr, hc⟩ := hc
      rw [n, hb] at hc; cases hc
  rw [hMA, hf]
  refine ⟨rdM_bare h.ms fun h0 a ha => far _ (rdM_lt h.ms h0 a ha) (h.msP h0 a ha) (rdM_cells h.ms h0 a ha), fun h0 a ha => hG _ (rdM_lt h.ms h0 a ha) (h.msP h0 a ha), fun n v hv => ?_⟩
  obtain ⟨B, d, h1, h2, h3⟩ := h.bd n v hv
  exact ⟨B, d, h1, h2.heap fun h0 a ha => far _ (rd_in h2 h0 a ha) (h3 h0 a ha) (rd_cells h2 h0 a ha), fun h0 a ha => hG _ (rd_in h2 h0 a ha) (h3 h0 a ha)⟩
/-- Nothing that it holds has turned. -/
theorem XR.below (h : XR k w s e) (hb : Below w.heap.size w w') : XR k w' s e := by
  have hk := but_below hb
  obtain ⟨r1, r2, r3⟩ := h.rest hk (fun b _ q => by cases q) (s' := s) (fun b _ g => g) rfl rfl
  exact ⟨h.hp, h.hm, (hb.block _ (lt_of_blk h.blk)).trans h.blk, h.fuel, h.atl, h.flen, h.inp, own_but h.toks hk (fun g _ q => by cases q), own_but h.out hk (fun g _ q => by cases q), h.tl, own_but h.reads hk (fun g _ q => by cases q), own_but h.notes hk (fun g _ q => by cases q), bm_but h.bm hk (by simp), bm_but h.cm hk (by simp), h.mne, r1, h.msc, r2, r3⟩
theorem XW.below {n : Nat} (h : XW k w e n) (hb : Below w.heap.size w w') : XW k w' e n := by
  obtain ⟨s, hr, hn⟩ := h
  exact ⟨s, hr.below hb, hn⟩
/-- A store into its own cells: rows, maps and what is read stay. s' differs in how far the tokens are taken away alone. -/
theorem XR.setP (h : XR k w s e) (j : Nat) (v : Value) {a : Nat} {e' : Ex} (hb : (xC k s e).setIfInBounds j v = xC k { s with at_ := a } e') (ha : a ≤ s.full.length) (hi : s.full.drop a = e'.inp)
    (h1 : e'.ms = e.ms) (h2 : e'.fuel + e'.used = e.fuel + e.used) (h3 : e'.out = e.out) (h4 : e'.reads = e.reads) (h5 : e'.notes = e.notes) : XR k (w.setCell ⟨k.p, j, none⟩ v) { s with at_ := a } e' := by
  have hk := but_set (w := w) k.p j v
  obtain ⟨r1, r2, r3⟩ := h.rest hk (fun b _ q => .inl fun g => g.1 (Option.some.inj q)) (s' := { s with at_ := a }) (fun b _ g => g) rfl rfl
  refine ⟨h.hp, h.hm, ?_, by rw [h2]; exact h.fuel, ha, h.flen, hi, own_but h.toks hk (fun g hg q => h.nTp (hg.trans q)), ?_, h.tl, ?_, ?_, bm_but h.bm hk (fun q => h.mp (Option.some.inj q)), bm_but h.cm hk (fun q => h.cp (Option.some.inj q)), h.mne, ?_, ?_, ?_, ?_⟩
  · rw [blk_set h.blk, hb]
  · rw [h3]; exact own_but h.out hk (fun g hg q => h.nLp (hg.trans q))
  · rw [h4]; exact own_but h.reads hk (fun g hg q => h.nRp (hg.trans q))
  · rw [h5]; exact own_but h.notes hk (fun g hg q => h.nNp (hg.trans q))
  · rw [h1]; exact r1
  · rw [h1]; exact h.msc
  · rw [h1]; exact r2
  · rw [h1]; exact r3
end
end Go.Proofs.YtmnbepapgghdaaaGreat
