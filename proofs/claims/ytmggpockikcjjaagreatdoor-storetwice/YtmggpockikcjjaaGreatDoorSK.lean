/-
  A store, or a disk, of the law's own since a world: what the calls make of it; how many bytes small maps have.
-/
import Derived.Test.YtmggpockikcjjaaGreatDoorSJ
namespace Go.Proofs.YtmggpockikcjjaaGreatDoor
open Go.RowKit
open Dsk (DS Tx Wt Kp DiskAt NoB Ok newS crashS limitS RdB)

structure LS (w0 w : World) (q s : Nat) (F : Nat → Prop) (n : Nat) (fs : List Fl) (st : DS) : Prop where
  sat : SAt w q s F n fs st
  fb : ∀ x, F x → w0.heap.size ≤ x
  fl : ∀ x, F x → x < w.heap.size
  qb : w0.heap.size ≤ q
  bel : Below w0.heap.size w0 w
structure LD (w0 w : World) (s : Nat) (F : Nat → Prop) (st : DS) : Prop where
  disk : DiskAt w s F st
  fb : ∀ x, F x → w0.heap.size ≤ x
  fl : ∀ x, F x → x < w.heap.size
  bel : Below w0.heap.size w0 w
structure Stp (w : World) (F : Nat → Prop) (q : Nat) (w' : World) (F' : Nat → Prop) (q' : Nat) : Prop where
  kp : Kp (fun x => F x ∨ x = q) w w'
  sub : ∀ x, F' x → F x ∨ w.heap.size ≤ x
  q : q' = q ∨ w.heap.size ≤ q'
theorem RdA.stp {w w' : World} {F F' : Nat → Prop} {q q' : Nat} {A : Option Addr} {fs : List Fl} (h : RdA w F q A fs) (k : Stp w F q w' F' q') : RdA w' F' q' A fs := h.step k.kp k.sub k.q
theorem Stp.below {w w' : World} (F : Nat → Prop) (q : Nat) (hb : Below w.heap.size w w') : Stp w F q w' F q := ⟨Kp.of_below hb _, fun _ h => .inl h, .inl rfl⟩
theorem LS.below {w0 w w' : World} {q s : Nat} {F : Nat → Prop} {n : Nat} {fs : List Fl} {st : DS} (h : LS w0 w q s F n fs st) (hb : Below w.heap.size w w') : LS w0 w' q s F n fs st :=
  ⟨h.sat.below hb, h.fb, fun x hx => Nat.lt_of_lt_of_le (h.fl x hx) hb.size, h.qb, bch h.bel hb⟩
theorem LD.below {w0 w w' : World} {s : Nat} {F : Nat → Prop} {st : DS} (h : LD w0 w s F st) (hb : Below w.heap.size w w') : LD w0 w' s F st :=
  ⟨h.disk.kp (Kp.of_below hb NoB) (fun _ _ h => h), h.fb, fun x hx => Nat.lt_of_lt_of_le (h.fl x hx) hb.size, bch h.bel hb⟩
theorem LS.ld {w0 w : World} {q s : Nat} {F : Nat → Prop} {n : Nat} {fs : List Fl} {st : DS} (h : LS w0 w q s F n fs st) : LD w0 w s F st := ⟨h.sat.disk, h.fb, h.fl, h.bel⟩
/-- Blocks that are made later are apart from it. -/
theorem LS.apart {w0 w w' : World} {q s : Nat} {F : Nat → Prop} {n : Nat} {fs gs : List Fl} {st : DS} (h : LS w0 w q s F n fs st) {A : Option Addr} {c : Nat} (ho : Own w' w.heap.size A c gs) : RdA w' F q A gs := ho.apart h.fl h.sat.qlt
theorem LS.arg {w0 w : World} {q s : Nat} {F : Nat → Prop} {n : Nat} {fs gs : List Fl} {st : DS} (h : LS w0 w q s F n fs st) {A : Option Addr} (hr : Rd w0 A gs) : RdA w F q A gs := ⟨hr.below h.bel, hr.ahead (Nat.le_refl _) h.fb h.qb⟩
theorem ls_on (n : Nat) (w : World) (T : Tabs w) (n4 : 4 ≤ n) (n64 : n ≤ 64) : Calls Tryz.prog 8 #[.int .i64 n] w fun e w' => ∃ q s F, e = .returned (.tuple #[.pointer (some ⟨q, 0, none⟩), .pointer (some ⟨s, 0, none⟩)]) ∧ LS w w' q s F n [] (newS n) := by
  refine (on_any n w T n4 n64).mono ?_
  rintro e w' ⟨q, s, F, rfl, hb, hS, hF, hq⟩
  exact ⟨q, s, _, rfl, hS.within, fun x hx => hF x hx.1, fun x hx => hx.2, hq, hb⟩

/-- A commit that succeeds. -/
def CmOk (w0 w : World) (q s : Nat) (F : Nat → Prop) (n : Nat) (st : DS) (new : List Fl) (w' : World) : Prop :=
  ∃ F' st', LS w0 w' q s F' n new st' ∧ (st.lim = none → st'.lim = none) ∧ st'.cnt ≤ st.cnt + halfN n + 1 ∧ Stp w F q w' F' q
/-- One that the disk stops. -/
def CmDead (w0 w : World) (q s : Nat) (F : Nat → Prop) (n : Nat) (st : DS) (old new : List Fl) (w' : World) : Prop :=
  ∃ F' st', LD w0 w' s F' st' ∧ st'.n = n ∧ st.lim ≠ none ∧ Torn n old new st' ∧ (st.lim = some 0 → st' = st) ∧ st'.cnt ≤ st.cnt + halfN n + 1 ∧ Stp w F q w' F' q
theorem ls_commit {w0 w : World} {q s n : Nat} {F : Nat → Prop} {st : DS} {old new : List Fl} (T : Tabs w0) (h : LS w0 w q s F n old st) {A : Option Addr} (c : Nat) (hr : Rd w A new) (hg : Good new) (hx : (filesL new).length ≤ 64 * halfN n) (hc : st.cnt + halfN n + 1 < 1000) :
    Calls Tryz.prog 13 #[.pointer (some ⟨q, 0, none⟩), .slice A new.length c] w fun e w' => (e = .returned (.int .i64 0) ∧ st.lim ≠ some 0 ∧ CmOk w0 w q s F n st new w') ∨ (e = .returned (.int .i64 8) ∧ CmDead w0 w q s F n st old new w') := by
  refine (commit_good q s n F st old new A c w (T.below h.bel) h.sat hr hg hx hc).mono ?_
  rintro e w' ⟨x, rfl, hk, F', st', hF, hcnt, hway⟩
  have hs := h.bel.size
  have hb : Below w0.heap.size w0 w' := h.bel.trans (hk.below hs (fun x hx => by rcases hx with hx | rfl; exact h.fb x hx; exact h.qb))
  have fb : ∀ x, (F' x ∧ x < w'.heap.size) → w0.heap.size ≤ x := fun x hx => by
    rcases hF x hx.1 with p | p
    · exact h.fb x p
    · omega
  have stp : Stp w F q w' (fun x => F' x ∧ x < w'.heap.size) q := ⟨hk, fun x hx => hF x hx.1, .inl rfl⟩
  rcases hway with ⟨rfl, hS, hl, hz⟩ | ⟨rfl, hd, hn, hl, ht, hz⟩
  · exact .inl ⟨rfl, hz, _, st', ⟨hS.within, fb, fun x hx => hx.2, h.qb, hb⟩, hl, hcnt, stp⟩
  · exact .inr ⟨rfl, _, st', ⟨hd.within, fb, fun x hx => hx.2, hb⟩, hn, hl, ht, hz, hcnt, stp⟩
theorem ls_commit_ok {w0 w : World} {q s n : Nat} {F : Nat → Prop} {st : DS} {old new : List Fl} (T : Tabs w0) (h : LS w0 w q s F n old st) {A : Option Addr} (c : Nat) (hr : Rd w A new) (hg : Good new) (hx : (filesL new).length ≤ 64 * halfN n) (hc : st.cnt + halfN n + 1 < 1000) (hl : st.lim = none) :
    Calls Tryz.prog 13 #[.pointer (some ⟨q, 0, none⟩), .slice A new.length c] w fun e w' => e = .returned (.int .i64 0) ∧ CmOk w0 w q s F n st new w' := by
  refine (ls_commit T h c hr hg hx hc).mono ?_
  rintro e w' (⟨rfl, _, k⟩ | ⟨rfl, _, _, _, _, k, _⟩)
  · exact ⟨rfl, k⟩
  · exact absurd hl k
theorem ls_commit_dead {w0 w : World} {q s n : Nat} {F : Nat → Prop} {st : DS} {old new : List Fl} (T : Tabs w0) (h : LS w0 w q s F n old st) {A : Option Addr} (c : Nat) (hr : Rd w A new) (hg : Good new) (hx : (filesL new).length ≤ 64 * halfN n) (hc : st.cnt + halfN n + 1 < 1000) (hl : st.lim = some 0) :
    Calls Tryz.prog 13 #[.pointer (some ⟨q, 0, none⟩), .slice A new.length c] w fun e w' => e = .returned (.int .i64 8) ∧ ∃ F', LD w0 w' s F' st ∧ Stp w F q w' F' q := by
  refine (ls_commit T h c hr hg hx hc).mono ?_
  rintro e w' (⟨rfl, k, _⟩ | ⟨rfl, F', st', k, _, _, _, hz, _, hs⟩)
  · exact absurd hl k
  · rw [hz hl] at k
    exact ⟨rfl, F', k, hs⟩
theorem ld_step {w0 w w' : World} {s : Nat} {F F' : Nat → Prop} {st st' : DS} (h : LD w0 w s F st) (hk : Kp F w w') (hd : DiskAt w' s F' st') (hF : ∀ x, F' x → F x ∨ w.heap.size ≤ x) (q : Nat) : LD w0 w' s (fun x => F' x ∧ x < w'.heap.size) st' ∧ Stp w F q w' (fun x => F' x ∧ x < w'.heap.size) q := by
  have hs := h.bel.size
  refine ⟨⟨hd.within, fun x hx => ?_, fun x hx => hx.2, h.bel.trans (hk.below hs h.fb)⟩, ⟨hk.mono (fun _ h => .inl h), fun x hx => hF x hx.1, .inl rfl⟩⟩
  rcases hF x hx.1 with p | p
  · exact h.fb x p
  · omega
theorem ld_crash {w0 w : World} {s : Nat} {F : Nat → Prop} {st : DS} (h : LD w0 w s F st) (q : Nat) {B : Option Addr} (cB : Nat) {ks : List Bool} (hr : RdB w B ks) (hks : ks.length ≤ 9223372036854775807) :
    Calls Tryz.prog 18 #[.pointer (some ⟨s, 0, none⟩), .slice B ks.length cB] w fun e w' => e = .returned (.tuple #[]) ∧ ∃ F', LD w0 w' s F' (crashS st ks) ∧ Stp w F q w' F' q := by
  refine (Dsk.crash_disk B cB s ks F st w h.disk hr hks).mono ?_
  rintro e w' ⟨rfl, hk, F', hd, hF⟩
  exact ⟨rfl, _, ld_step h hk hd hF q⟩
theorem ls_limit {w0 w : World} {q s n : Nat} {F : Nat → Prop} {st : DS} {fs : List Fl} (T : Tabs w0) (h : LS w0 w q s F n fs st) (k : Int) (h1 : -9223372036854775808 ≤ k) (h2 : k ≤ 9223372036854775807) :
    Calls Tryz.prog 20 #[.pointer (some ⟨s, 0, none⟩), .int .i64 k] w fun e w' => e = .returned (.tuple #[]) ∧ ∃ F', LS w0 w' q s F' n fs (limitS st k) ∧ Stp w F q w' F' q := by
  refine (Dsk.limit_disk s k F st w h.sat.disk h1 h2).mono ?_
  rintro e w' ⟨rfl, hk, F', hd, hF⟩
  obtain ⟨a, b⟩ := ld_step h.ld hk hd hF q
  have hs := h.bel.size
  have hT := T.big
  exact ⟨rfl, _, ⟨h.sat.dpost hk a.disk (fun x hx => hF x hx.1) (by omega) rfl h.sat.pend rfl, a.fb, a.fl, h.qb, a.bel⟩, b⟩
theorem ld_limit {w0 w : World} {s : Nat} {F : Nat → Prop} {st : DS} (h : LD w0 w s F st) (q : Nat) (k : Int) (h1 : -9223372036854775808 ≤ k) (h2 : k ≤ 9223372036854775807) :
    Calls Tryz.prog 20 #[.pointer (some ⟨s, 0, none⟩), .int .i64 k] w fun e w' => e = .returned (.tuple #[]) ∧ ∃ F', LD w0 w' s F' (limitS st k) ∧ Stp w F q w' F' q := by
  refine (Dsk.limit_disk s k F st w h.disk h1 h2).mono ?_
  rintro e w' ⟨rfl, hk, F', hd, hF⟩
  exact ⟨rfl, _, ld_step h hk hd hF q⟩
theorem ld_open {w0 w : World} {s n : Nat} {F : Nat → Prop} {st : DS} {fs : List Fl} (T : Tabs w0) (h : LD w0 w s F st) (hc : Clean n fs st) (n4 : 4 ≤ n) (n64 : n ≤ 64) (q : Nat) :
    Calls Tryz.prog 19 #[.pointer (some ⟨s, 0, none⟩)] w fun e w' => ∃ q' F', e = .returned (.tuple #[.pointer (some ⟨q', 0, none⟩), .int .i64 0]) ∧ LS w0 w' q' s F' n fs st ∧ Stp w F q w' F' q' := by
  have hT := T.big
  refine (open_any s n F st fs w (T.below h.bel) ⟨h.disk, fun x hx => by have := h.fb x hx; omega, n4, n64, hc⟩).mono ?_
  rintro e w' ⟨q', rfl, hq, hb, hS⟩
  have hs := h.bel.size
  exact ⟨q', _, rfl, ⟨hS, fun x hx => h.fb x hx.1, fun x hx => Nat.lt_of_lt_of_le hx.2 hb.size, by omega, bch h.bel hb⟩, Kp.of_below hb _, fun x hx => .inl hx.1, .inr hq⟩
theorem ls_load {w0 w : World} {q s n : Nat} {F : Nat → Prop} {st : DS} {fs : List Fl} (h : LS w0 w q s F n fs st) : Calls Tryz.prog 16 #[.pointer (some ⟨q, 0, none⟩)] w (Res w fs) := load_any q s n F st fs w h.sat
theorem same_rd (A B : Option Addr) (c d : Nat) (fs gs : List Fl) (w : World) (hr : Rd w A fs) (hq : Rd w B gs) (hc : fs.length ≤ 100000) (hd : gs.length ≤ 100000) :
    Calls Tryz.prog 15 #[.slice A fs.length c, .slice B gs.length d] w fun e w' => e = .returned (.bool (decide (fs = gs))) ∧ Below w.heap.size w w' := by
  refine (equal_any A B c d fs gs w hr hq hc hd).mono ?_
  rintro e w' ⟨rfl, n, rfl⟩
  exact ⟨rfl, drewN_below _ _⟩

/-! ### how many bytes small maps have -/
theorem fold_texts (b : Nat) : ∀ (l : List Fl) (out : List Fl), (∀ f ∈ out, f.2.length ≤ b) → ∀ f ∈ l.foldl (stepL b) out, f.2.length ≤ b
  | [], out, h => h
  | x :: r, out, h => by
    rw [List.foldl_cons]
    refine fold_texts b r _ (fun f hf => ?_)
    unfold stepL at hf
    split at hf
    · rcases putL_mem hf with rfl | hf
      · simp [List.length_take]; omega
      · exact h f hf
    · exact h f hf
theorem mapL_texts (l : List Fl) (m b : Nat) : ∀ f ∈ mapL l m b, f.2.length ≤ b := fold_texts b _ [] (by simp)
theorem name_len {f : Fl} (h : wrE f = 0) : f.1.length ≤ 24 := by
  have := (wrE_ok h).1
  unfold nmOk at this
  simp at this
  omega
theorem small_bytes (b : Nat) (hb : b ≤ 9999) : ∀ (fs : List Fl), (∀ f ∈ fs, wrE f = 0) → (∀ f ∈ fs, f.2.length ≤ b) → (filesL fs).length ≤ fs.length * (b + 36)
  | [], _, _ => by simp [filesL]
  | f :: r, h1, h2 => by
    have ih := small_bytes b hb r (fun g hg => h1 g (List.mem_cons_of_mem _ hg)) (fun g hg => h2 g (List.mem_cons_of_mem _ hg))
    have n1 := name_len (h1 f List.mem_cons_self)
    have n2 := h2 f List.mem_cons_self
    have d1 := dec_len4 f.1.length (by omega)
    have d2 := dec_len4 f.2.length (by omega)
    have e : filesL (f :: r) = wputL f.1 ++ wputL f.2 ++ filesL r := by simp [filesL]
    rw [e, List.length_append, List.length_append, wput_len, wput_len, List.length_cons, Nat.succ_mul]
    omega
theorem map640 (l : List Fl) : (filesL (mapL l 6 40)).length ≤ 64 * halfN 40 := by
  have h1 := small_bytes 40 (by omega) (mapL l 6 40) (mapL_good l 6 40).2.2 (mapL_texts l 6 40)
  have h2 := mapL_len l 6 40
  have h3 : (mapL l 6 40).length * (40 + 36) ≤ 6 * 76 := Nat.mul_le_mul_right 76 h2
  have h4 : 64 * halfN 40 = 1216 := rfl
  omega
end Go.Proofs.YtmggpockikcjjaaGreatDoor
