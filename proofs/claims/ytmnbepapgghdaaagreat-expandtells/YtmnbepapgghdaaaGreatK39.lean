/-
  The laws of package expand: files that they hand in.
-/
import Derived.Test.YtmnbepapgghdaaaGreatK37
import Derived.Test.YtmnbepapgghdaaaGreatK38
namespace Go.Proofs.YtmnbepapgghdaaaGreat
open Go.RowKit

namespace Fl
theorem put_mem {fs : List Fl} {f m : Fl} (h : m ∈ putL fs f) : m = f ∨ m ∈ fs := by
  unfold putL at h
  rcases List.mem_append.1 h with q | q
  · exact .inr (List.mem_filter.1 (List.takeWhile_prefix _ |>.sublist.subset q)).1
  · rcases List.mem_cons.1 q with q | q
    · exact .inl q
    · exact .inr (List.mem_filter.1 ((List.dropWhile_suffix _).sublist.subset q)).1
theorem foldl_txt (b : Nat) : ∀ (l : List Fl) (out : List Fl), (∀ f ∈ out, f.2.length ≤ b) → ∀ f ∈ l.foldl (stepL b) out, f.2.length ≤ b
  | [], _, h => h
  | f :: r, out, h => foldl_txt b r (stepL b out f) (by
    unfold stepL
    split
    · intro m hm
      rcases put_mem hm with rfl | hm
      · simp; omega
      · exact h m hm
    · exact h)
theorem mapL_txt (l : List Fl) (m b : Nat) : ∀ f ∈ mapL l m b, f.2.length ≤ b := foldl_txt b _ [] (fun f hf => by cases hf)
end Fl
set_option maxRecDepth 100000 in
theorem files_any (A : Option Addr) (c : Nat) (fs : List Fl.Fl) (w : World) (hr : Fl.Rd w A fs) (hfit : Hid (Fl.Fit fs)) (hl : fs.length ≤ 9223372036854775807) :
    Calls Tryz.prog 9 #[.slice A fs.length c] w (Fl.Res w (Fl.mapL fs 6 200)) := by
  have C := Lib.hid (Fl.map_any A c fs 6 200 w hr hfit hl (by omega) (by omega))
  obtain ⟨R, hR⟩ : ∃ R, Fl.mapL fs 6 200 = R := ⟨_, rfl⟩
  rw [hR] at C ⊢
  clear hR hfit
  go_enter Tryz.func9, Tryz.ntmps9
  go_wp2_with fail
  refine C.out.mono ?_
  rintro en w1 ⟨B, d, rfl, ho, hb⟩
  have HO := Lib.hid ho
  have HB := Lib.hid hb
  clear ho hb
  go_wp2
  go_ret
  exact ⟨B, d, rfl, HO.out, HB.out⟩
/-- What a law hands in. -/
theorem map_fs {w : World} {A : Option Addr} (fs : List Fl.Fl) (hr : Fl.Rd w A (Fl.mapL fs 6 200)) : Fs w A (Fl.mapL fs 6 200) :=
  ⟨hr, by have := Fl.mapL_len fs 6 200; omega, (Fl.mapL_good fs 6 200).1, fun f hf => by have := Fl.mapL_txt fs 6 200 f hf; omega⟩
theorem Fs.below {w w' : World} {A : Option Addr} {fs : List Fl.Fl} (h : Fs w A fs) (hb : Below w.heap.size w w') : Fs w' A fs := ⟨h.rd.below hb, h.len, h.srt, h.txt⟩
theorem sm_of {fs : List Fl.Fl} {fuel most : Nat} {main : By} (hf : fuel ≤ 50) (hm : most ≤ 900) (hs : ∀ f ∈ fs, f.2.length ≤ 1000) : Sm (outX (expE Fl.nmOk (flF fs) fuel most main)) := by
  have h := expE_fine (main := main) hf hm hs
  exact ⟨by show (expE Fl.nmOk (flF fs) fuel most main).out.length ≤ _; have := h.out; omega, by show (expE Fl.nmOk (flF fs) fuel most main).reads.length ≤ _; have := h.reads; omega, by show (expE Fl.nmOk (flF fs) fuel most main).notes.length ≤ _; have := h.notes; omega⟩
theorem expE_used (ok : By → Bool) (F : By → Option By) (fuel most : Nat) (main : By) : (expE ok F fuel most main).used ≤ fuel := by
  unfold expE
  split
  · exact Nat.zero_le _
  · rename_i t _
    have := run_used ok F most { (ex0 fuel).ask main with inp := toks t }
    have e1 : ({ (ex0 fuel).ask main with inp := toks t } : Ex).used = 0 := rfl
    have e2 : ({ (ex0 fuel).ask main with inp := toks t } : Ex).fuel = fuel := rfl
    omega
theorem expE_out {ok : By → Bool} {F : By → Option By} {fuel most : Nat} {main : By} : (expE ok F fuel most main).out.length ≤ most := by
  unfold expE
  split
  · exact Nat.zero_le _
  · exact run_out ok F most _ (Nat.zero_le _)
theorem expE_up {ok : By → Bool} {F : By → Option By} {fuel most : Nat} {main : By} (m d : Nat) (h : (expE ok F fuel most main).notes = []) : outX (expE ok F (fuel + d) (most + m) main) = outX (expE ok F fuel most main) := by
  unfold expE at h ⊢
  split
  · rename_i hF; rw [hF] at h; cases h
  · rename_i t hF
    rw [hF] at h
    have h : (runE ok F most { (ex0 fuel).ask main with inp := toks t }).notes = [] := h
    have := run_up (ok := ok) (F := F) (most := most) m d { (ex0 fuel).ask main with inp := toks t } (by rw [h]; rfl)
    have e : ({ (ex0 (fuel + d)).ask main with inp := toks t } : Ex) = Ex.up { (ex0 fuel).ask main with inp := toks t } d := rfl
    rw [e, this]
    rfl
end Go.Proofs.YtmnbepapgghdaaaGreat
