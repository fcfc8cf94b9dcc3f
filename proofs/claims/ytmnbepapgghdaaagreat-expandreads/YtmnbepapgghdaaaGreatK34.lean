/-
  The laws of package expand: files that they hand in.
  ExpandReads: its mathematics.
-/
import Derived.Test.YtmnbepapgghdaaaGreatK32
import Derived.Test.YtmnbepapgghdaaaGreatK33
namespace Go.Proofs.YtmnbepapgghdaaaGreat
open Go.RowKit

namespace Fl
theorem put_mem {fs : List Fl} {f m : Fl} (h : m ∈ putL fs f) : m = f ∨ m ∈ fs := by
  unfold putL at h
  rcases List.mem_append.1 h with q | q
  · exact .inr (List.mem_filter.1 (List.takeWhile_prefix _ |>.sublist.subset q)).1
  · rcases List.mem_cons.1 q with q | q
    · exact .inl q
    · exact .inr (List.mem_filter.1 ((List.dropWhile_suffix _).sublist.subset q)).1
theorem foldl_txt (b : Nat) : ∀ (l : List Fl) (out : List Fl), (∀ f ∈ out, f.2.length ≤ b) → ∀ f ∈ l.foldl (stepL b) out, f.2.length ≤ b
  | [], _, h => h
  | f :: r, out, h => foldl_txt b r (stepL b out f) (by
    unfold stepL
    split
    · intro m hm
      rcases put_mem hm with rfl | hm
      · simp; omega
      · exact h m hm
    · exact h)
theorem mapL_txt (l : List Fl) (m b : Nat) : ∀ f ∈ mapL l m b, f.2.length ≤ b := foldl_txt b _ [] (fun f hf => by cases hf)
end Fl
set_option maxRecDepth 100000 in
theorem files_any (A : Option Addr) (c : Nat) (fs : List Fl.Fl) (w : World) (hr : Fl.Rd w A fs) (hfit : Hid (Fl.Fit fs)) (hl : fs.length ≤ 9223372036854775807) :
    Calls Tryz.prog 9 #[.slice A fs.length c] w (Fl.Res w (Fl.mapL fs 6 200)) := by
  have C := Lib.hid (Fl.map_any A c fs 6 200 w hr hfit hl (by omega) (by omega))
  obtain ⟨R, hR⟩ : ∃ R, Fl.mapL fs 6 200 = R := ⟨_, rfl⟩
  rw [hR] at C ⊢
  clear hR hfit
  go_enter Tryz.func9, Tryz.ntmps9
  go_wp2_with fail
  refine C.out.mono ?_
  rintro en w1 ⟨B, d, rfl, ho, hb⟩
  have HO := Lib.hid ho
  have HB := Lib.hid hb
  clear ho hb
  go_wp2
  go_ret
  exact ⟨B, d, rfl, HO.out, HB.out⟩
/-- What a law hands in. -/
theorem map_fs {w : World} {A : Option Addr} (fs : List Fl.Fl) (hr : Fl.Rd w A (Fl.mapL fs 6 200)) : Fs w A (Fl.mapL fs 6 200) :=
  ⟨hr, by have := Fl.mapL_len fs 6 200; omega, (Fl.mapL_good fs 6 200).1, fun f hf => by have := Fl.mapL_txt fs 6 200 f hf; omega⟩
theorem Fs.below {w w' : World} {A : Option Addr} {fs : List Fl.Fl} (h : Fs w A fs) (hb : Below w.heap.size w w') : Fs w' A fs := ⟨h.rd.below hb, h.len, h.srt, h.txt⟩
theorem sm_of {fs : List Fl.Fl} {fuel most : Nat} {main : By} (hf : fuel ≤ 50) (hm : most ≤ 900) (hs : ∀ f ∈ fs, f.2.length ≤ 1000) : Sm (outX (expE Fl.nmOk (flF fs) fuel most main)) := by
  have h := expE_fine (main := main) hf hm hs
  exact ⟨by show (expE Fl.nmOk (flF fs) fuel most main).out.length ≤ _; have := h.out; omega, by show (expE Fl.nmOk (flF fs) fuel most main).reads.length ≤ _; have := h.reads; omega, by show (expE Fl.nmOk (flF fs) fuel most main).notes.length ≤ _; have := h.notes; omega⟩
theorem expE_used (ok : By → Bool) (F : By → Option By) (fuel most : Nat) (main : By) : (expE ok F fuel most main).used ≤ fuel := by
  unfold expE
  split
  · exact Nat.zero_le _
  · rename_i t _
    have := run_used ok F most { (ex0 fuel).ask main with inp := toks t }
    have e1 : ({ (ex0 fuel).ask main with inp := toks t } : Ex).used = 0 := rfl
    have e2 : ({ (ex0 fuel).ask main with inp := toks t } : Ex).fuel = fuel := rfl
    omega
theorem expE_out {ok : By → Bool} {F : By → Option By} {fuel most : Nat} {main : By} : (expE ok F fuel most main).out.length ≤ most := by
  unfold expE
  split
  · exact Nat.zero_le _
  · exact run_out ok F most _ (Nat.zero_le _)
theorem expE_up {ok : By → Bool} {F : By → Option By} {fuel most : Nat} {main : By} (m d : Nat) (h : (expE ok F fuel most main).notes = []) : outX (expE ok F (fuel + d) (most + m) main) = outX (expE ok F fuel most main) := by
  unfold expE at h ⊢
  split
  · rename_i hF; rw [hF] at h; cases h
  · rename_i t hF
    rw [hF] at h
    have h : (runE ok F most { (ex0 fuel).ask main with inp := toks t }).notes = [] := h
    have := run_up (ok := ok) (F := F) (most := most) m d { (ex0 fuel).ask main with inp := toks t } (by rw [h]; rfl)
    have e : ({ (ex0 (fuel + d)).ask main with inp := toks t } : Ex) = Ex.up { (ex0 fuel).ask main with inp := toks t } d := rfl
    rw [e, this]
    rfl
end Go.Proofs.YtmnbepapgghdaaaGreat

namespace Go.Proofs.YtmnbepapgghdaaaGreat
open Go.RowKit

theorem ask_pre (e : Ex) (s : By) : e.reads <+: (e.ask s).reads := by
  unfold Ex.ask
  simp only
  split
  · exact List.prefix_refl _
  · exact List.prefix_append _ _
theorem step_pre {ok : By → Bool} {F : By → Option By} {most : Nat} {e e' : Ex} {b : Bool} (h : stepE ok F most e = some (b, e')) : e.reads <+: e'.reads :=
  step_keeps (fun a b => a.reads <+: b.reads) (fun _ _ _ => List.prefix_refl _) (fun _ _ => List.prefix_refl _) (fun _ _ => List.prefix_refl _) (fun _ _ => List.prefix_refl _) (fun _ _ => List.prefix_refl _) (fun e s => ask_pre e s) (fun _ _ _ => List.prefix_refl _) (fun _ _ _ h k => h.trans k) h
theorem run_pre (ok : By → Bool) (F : By → Option By) (most : Nat) (e : Ex) : e.reads <+: (runE ok F most e).reads :=
  run_ind (fun a b => a.reads <+: b.reads) (fun _ _ => List.prefix_refl _) (fun _ _ h => step_pre h) (fun _ _ _ h k => (step_pre h).trans k) e
/-- The file itself is asked for first. -/
theorem expE_first (ok : By → Bool) (F : By → Option By) (fuel most : Nat) (main : By) : (expE ok F fuel most main).reads[0]? = some main := by
  have h0 : ((ex0 fuel).ask main).reads = [main] := rfl
  unfold expE
  cases F main with
  | none => rfl
  | some t =>
    obtain ⟨r, hr⟩ := run_pre ok F most { (ex0 fuel).ask main with inp := toks t }
    have h1 : ({ (ex0 fuel).ask main with inp := toks t } : Ex).reads = [main] := h0
    rw [h1] at hr
    show (runE ok F most { (ex0 fuel).ask main with inp := toks t }).reads[0]? = some main
    rw [← hr]
    rfl
/-- Files that were not asked for make no difference. -/
theorem expE_files {ok : By → Bool} {F G : By → Option By} {fuel most : Nat} {main : By} (h : ∀ n ∈ (expE ok F fuel most main).reads, F n = G n) : expE ok G fuel most main = expE ok F fuel most main := by
  have hm : F main = G main := h main (List.mem_of_getElem? (expE_first ok F fuel most main))
  unfold expE at h ⊢
  rw [← hm]
  cases hF : F main with
  | none => rfl
  | some t =>
    rw [hF] at h
    exact run_files _ h
/-- A file that is filtered away, or not: what is found of those that are kept. -/
theorem flF_filter {fs : List Fl.Fl} {q : By → Bool} {n : By} (h : q n = true) : flF (fs.filter fun f => q f.1) n = flF fs n := by
  unfold flF Fl.getL
  congr 1
  induction fs with
  | nil => rfl
  | cons f r ih =>
    by_cases hq : q f.1 = true
    · rw [List.filter_cons_of_pos (p := fun f : Fl.Fl => q f.1) hq]
      simp only [List.find?_cons]
      cases f.1 == n
      · exact ih
      · rfl
    · rw [List.filter_cons_of_neg (p := fun f : Fl.Fl => q f.1) hq]
      have hne : (f.1 == n) = false := by
        cases e : f.1 == n
        · rfl
        · rw [eq_of_beq e, h] at hq; exact absurd rfl hq
      simp only [List.find?_cons, hne]
      exact ih
theorem fs_filter {w w' : World} {A B : Option Addr} {fs : List Fl.Fl} (h : Fs w A fs) (q : By → Bool) (hr : Fl.Rd w' B (fs.filter fun f => q f.1)) : Fs w' B (fs.filter fun f => q f.1) :=
  ⟨hr, Nat.le_trans (List.length_filter_le _ _) h.len, h.srt.filter _, fun f hf => h.txt f (List.mem_filter.1 hf).1⟩
theorem fs_put {w w' : World} {A B : Option Addr} {fs : List Fl.Fl} {f : Fl.Fl} (h : Fs w A fs) (hg : Fl.Good fs) (he : Fl.putE fs f = 0) (hf : f.2.length ≤ 1000) (hr : Fl.Rd w' B (Fl.putL fs f)) : Fs w' B (Fl.putL fs f) :=
  ⟨hr, by have := (Fl.putL_good hg he).2.1; omega, (Fl.putL_good hg he).1, fun m hm => (Fl.put_mem hm).elim (fun e => by rw [e]; exact hf) (h.txt m)⟩
theorem flF_put {fs : List Fl.Fl} {f : Fl.Fl} {n : By} (h : n ≠ f.1) : flF (Fl.putL fs f) n = flF fs n := by
  unfold flF
  rw [Fl.getL_putL, if_neg h]
end Go.Proofs.YtmnbepapgghdaaaGreat
