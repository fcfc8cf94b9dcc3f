/-
  The laws of package expand: files that they hand in.
  Plain mathematics of the laws of layer 8. No program text in it.
  ExpandPlain: its mathematics.
-/
import Derived.Test.YtmnbepapgghdaaaGreatK32
import Derived.Test.YtmnbepapgghdaaaGreatK33
import Derived.Test.YtmnbepapgghdaaaGreatK14
import Derived.Test.YtmnbepapgghdaaaGreatK15
import Derived.Test.YtmnbepapgghdaaaGreatK31
namespace Go.Proofs.YtmnbepapgghdaaaGreat
open Go.RowKit

namespace Fl
theorem put_mem {fs : List Fl} {f m : Fl} (h : m ∈ putL fs f) : m = f ∨ m ∈ fs := by
  unfold putL at h
  rcases List.mem_append.1 h with q | q
  · exact .inr (List.mem_filter.1 (List.takeWhile_prefix _ |>.sublist.subset q)).1
  · rcases List.mem_cons.1 q with q | q
    · exact .inl q
    · exact .inr (List.mem_filter.1 ((List.dropWhile_suffix _).sublist.subset q)).1
theorem foldl_txt (b : Nat) : ∀ (l : List Fl) (out : List Fl), (∀ f ∈ out, f.2.length ≤ b) → ∀ f ∈ l.foldl (stepL b) out, f.2.length ≤ b
  | [], _, h => h
  | f :: r, out, h => foldl_txt b r (stepL b out f) (by
    unfold stepL
    split
    · intro m hm
      rcases put_mem hm with rfl | hm
      · simp; omega
      · exact h m hm
    · exact h)
theorem mapL_txt (l : List Fl) (m b : Nat) : ∀ f ∈ mapL l m b, f.2.length ≤ b := foldl_txt b _ [] (fun f hf => by cases hf)
end Fl
set_option maxRecDepth 100000 in
theorem files_any (A : Option Addr) (c : Nat) (fs : List Fl.Fl) (w : World) (hr : Fl.Rd w A fs) (hfit : Hid (Fl.Fit fs)) (hl : fs.length ≤ 9223372036854775807) :
    Calls Tryz.prog 9 #[.slice A fs.length c] w (Fl.Res w (Fl.mapL fs 6 200)) := by
  have C := Lib.hid (Fl.map_any A c fs 6 200 w hr hfit hl (by omega) (by omega))
  obtain ⟨R, hR⟩ : ∃ R, Fl.mapL fs 6 200 = R := ⟨_, rfl⟩
  rw [hR] at C ⊢
  clear hR hfit
  go_enter Tryz.func9, Tryz.ntmps9
  go_wp2_with fail
  refine C.out.mono ?_
  rintro en w1 ⟨B, d, rfl, ho, hb⟩
  have HO := Lib.hid ho
  have HB := Lib.hid hb
  clear ho hb
  go_wp2
  go_ret
  exact ⟨B, d, rfl, HO.out, HB.out⟩
/-- What a law hands in. -/
theorem map_fs {w : World} {A : Option Addr} (fs : List Fl.Fl) (hr : Fl.Rd w A (Fl.mapL fs 6 200)) : Fs w A (Fl.mapL fs 6 200) :=
  ⟨hr, by have := Fl.mapL_len fs 6 200; omega, (Fl.mapL_good fs 6 200).1, fun f hf => by have := Fl.mapL_txt fs 6 200 f hf; omega⟩
theorem Fs.below {w w' : World} {A : Option Addr} {fs : List Fl.Fl} (h : Fs w A fs) (hb : Below w.heap.size w w') : Fs w' A fs := ⟨h.rd.below hb, h.len, h.srt, h.txt⟩
theorem sm_of {fs : List Fl.Fl} {fuel most : Nat} {main : By} (hf : fuel ≤ 50) (hm : most ≤ 900) (hs : ∀ f ∈ fs, f.2.length ≤ 1000) : Sm (outX (expE Fl.nmOk (flF fs) fuel most main)) := by
  have h := expE_fine (main := main) hf hm hs
  exact ⟨by show (expE Fl.nmOk (flF fs) fuel most main).out.length ≤ _; have := h.out; omega, by show (expE Fl.nmOk (flF fs) fuel most main).reads.length ≤ _; have := h.reads; omega, by show (expE Fl.nmOk (flF fs) fuel most main).notes.length ≤ _; have := h.notes; omega⟩
theorem expE_used (ok : By → Bool) (F : By → Option By) (fuel most : Nat) (main : By) : (expE ok F fuel most main).used ≤ fuel := by
  unfold expE
  split
  · exact Nat.zero_le _
  · rename_i t _
    have := run_used ok F most { (ex0 fuel).ask main with inp := toks t }
    have e1 : ({ (ex0 fuel).ask main with inp := toks t } : Ex).used = 0 := rfl
    have e2 : ({ (ex0 fuel).ask main with inp := toks t } : Ex).fuel = fuel := rfl
    omega
theorem expE_out {ok : By → Bool} {F : By → Option By} {fuel most : Nat} {main : By} : (expE ok F fuel most main).out.length ≤ most := by
  unfold expE
  split
  · exact Nat.zero_le _
  · exact run_out ok F most _ (Nat.zero_le _)
theorem expE_up {ok : By → Bool} {F : By → Option By} {fuel most : Nat} {main : By} (m d : Nat) (h : (expE ok F fuel most main).notes = []) : outX (expE ok F (fuel + d) (most + m) main) = outX (expE ok F fuel most main) := by
  unfold expE at h ⊢
  split
  · rename_i hF; rw [hF] at h; cases h
  · rename_i t hF
    rw [hF] at h
    have h : (runE ok F most { (ex0 fuel).ask main with inp := toks t }).notes = [] := h
    have := run_up (ok := ok) (F := F) (most := most) m d { (ex0 fuel).ask main with inp := toks t } (by rw [h]; rfl)
    have e : ({ (ex0 (fuel + d)).ask main with inp := toks t } : Ex) = Ex.up { (ex0 fuel).ask main with inp := toks t } d := rfl
    rw [e, this]
    rfl
end Go.Proofs.YtmnbepapgghdaaaGreat

namespace Go.Proofs.YtmnbepapgghdaaaGreat

/-- What comes next is groups, and a text behind. -/
theorem argsW_now {gs : List (List Tok × List Tok)} {v : List Tok} {s : By} (h : ∀ g ∈ gs, (∀ t ∈ g.1, t.1 = 2) ∧ balG 0 g.2 = true) (hw : wordO ((gs.map (·.2)).headD []) = some s) : argsW (gpsL gs ++ v) gs.length = some (gs.map (·.2), s, (gpsL gs).length) := by
  unfold argsW
  rw [args_now gs v h]
  simp only [hw]
/-- A definition. -/
theorem run_def {ok : By → Bool} {F : By → Option By} {most : Nat} {e : Ex} {gs : List (List Tok × List Tok)} {v b : List Tok} {n : By} {d : Int} (hi : e.inp = (4, sDef) :: (gpsL gs ++ v)) (hl : gs.length = 3) (h : ∀ g ∈ gs, (∀ t ∈ g.1, t.1 = 2) ∧ balG 0 g.2 = true)
    (hw : wordO ((gs.map (·.2)).headD []) = some n) (hd : digO ((gs.map (·.2)).getD 1 []) = some d) (hb : (gs.map (·.2)).getD 2 [] = b) (hp : putE e.ms (n, d, b) = 0) : runE ok F most e = runE ok F most { e with inp := v, ms := putL e.ms (n, d, b) } := by
  have ha := argsW_now (v := v) h hw
  rw [hl] at ha
  refine run_next ?_
  unfold stepE
  rw [hi]
  simp only [if_true]
  unfold cmdE defE
  simp only [if_true, ha, hd, hb, hp, Ex.go, List.drop_left]
/-- A macro is asked for. -/
theorem run_call {ok : By → Bool} {F : By → Option By} {most : Nat} {e : Ex} {gs : List (List Tok × List Tok)} {v b : List Tok} {n : By} {d : Int} (hi : e.inp = (4, n) :: (gpsL gs ++ v)) (hl : d.toNat = gs.length) (h : ∀ g ∈ gs, (∀ t ∈ g.1, t.1 = 2) ∧ balG 0 g.2 = true)
    (hn : n ≠ sDef ∧ n ≠ sUndef ∧ n ≠ sIfdef ∧ n ≠ sInc) (hg : getL e.ms n = some (d, b)) (hf : e.fuel ≠ 0) (hm : (fillL b (gs.map (·.2))).length + v.length ≤ most) : runE ok F most e = runE ok F most { e with inp := fillL b (gs.map (·.2)) ++ v, fuel := e.fuel - 1, used := e.used + 1 } := by
  have ha := args_now gs v h
  refine run_next ?_
  unfold stepE
  rw [hi]
  simp only [if_true]
  unfold cmdE callE
  rw [if_neg hn.1, if_neg hn.2.1, if_neg hn.2.2.1, if_neg hn.2.2.2]
  simp only [hg, Option.map_some, hl, ha, if_neg hf, Ex.go, Ex.burn, Ex.come, List.drop_left]
  rw [if_neg (by omega)]
/-- A macro is undone. -/
theorem run_undef {ok : By → Bool} {F : By → Option By} {most : Nat} {e : Ex} {g : List Tok × List Tok} {v : List Tok} {n : By} (hi : e.inp = (4, sUndef) :: (gpsL [g] ++ v)) (h : (∀ t ∈ g.1, t.1 = 2) ∧ balG 0 g.2 = true) (hw : wordO g.2 = some n) :
    runE ok F most e = runE ok F most { e with inp := v, ms := dropL e.ms n } := by
  have ha := argsW_now (gs := [g]) (v := v) (s := n) (fun x hx => by simp at hx; subst hx; exact h) (by simpa using hw)
  refine run_next ?_
  unfold stepE
  rw [hi]
  simp only [if_true]
  unfold cmdE undefE
  rw [if_neg (by decide), if_pos rfl]
  simp only [List.length_cons, List.length_nil, Nat.zero_add] at ha
  simp only [ha, Ex.go, List.drop_left]
/-- A command that nothing knows is put out. -/
theorem run_other {ok : By → Bool} {F : By → Option By} {most : Nat} {e : Ex} {n : By} {v : List Tok} (hi : e.inp = (4, n) :: v) (hn : n ≠ sDef ∧ n ≠ sUndef ∧ n ≠ sIfdef ∧ n ≠ sInc) (hg : getL e.ms n = none) (ho : e.out.length < most) :
    runE ok F most e = runE ok F most { e with inp := v, out := e.out ++ [(4, n)] } := by
  refine run_next ?_
  unfold stepE
  rw [hi]
  simp only [if_true]
  unfold cmdE
  rw [if_neg hn.1, if_neg hn.2.1, if_neg hn.2.2.1, if_neg hn.2.2.2]
  simp only [hg, Option.map_none]
  rw [if_neg (by omega)]
/-- Tokens that are no commands go out first. -/
theorem run_puts {ok : By → Bool} {F : By → Option By} {most : Nat} : ∀ (l : List Tok) (v : List Tok) (e : Ex), e.inp = l ++ v → (∀ t ∈ l, t.1 ≠ 4) → e.out.length + l.length ≤ most → runE ok F most e = runE ok F most { e with inp := v, out := e.out ++ l }
  | [], v, e, hi, _, _ => by cases e; simp at hi; subst hi; simp
  | t :: r, v, e, hi, h4, hl => by
    simp at hl
    rw [run_next (by rw [step_put hi (h4 t (by simp)), if_neg (by omega)]), run_puts r v _ rfl (fun x hx => h4 x (by simp [hx])) (by simp; omega)]
    simp
end Go.Proofs.YtmnbepapgghdaaaGreat

namespace Go.Proofs.YtmnbepapgghdaaaGreat
open Go.RowKit

/-- The definition that nothing asks for. -/
def tN : By := [92, 100, 101, 102, 123, 110, 101, 118, 101, 114, 125, 123, 50, 125, 123, 35, 49, 32, 120, 32, 35, 50, 125]
def gN : List (List Tok × List Tok) := [([], [(1, [110, 101, 118, 101, 114])]), ([], [(1, [50])]), ([], [(7, [49]), (2, []), (1, [120]), (2, []), (7, [50])])]
theorem tN_toks : toks tN = (4, sDef) :: gpsL gN := by kernel_rfl
theorem tN_text : textL (toks tN) = tN := by kernel_rfl
theorem tN_right : rightL (toks tN) = true := by kernel_rfl
theorem tN_last : (toks tN).getLast? = some (6, []) := by kernel_rfl
theorem tN_front (t : By) : toks (tN ++ t) = toks tN ++ toks t := by
  have h := toks_front (toks tN) t tN_right (fun x hx => by
    rw [tN_last] at hx
    cases hx
    exact ⟨fun h => absurd h (by decide), fun h => absurd h (by decide), fun h => absurd h (by decide)⟩)
  rwa [tN_text] at h
theorem gN_ok : ∀ g ∈ gN, (∀ t ∈ g.1, t.1 = 2) ∧ balG 0 g.2 = true := by
  intro g hg
  simp only [gN, List.mem_cons, List.not_mem_nil, or_false] at hg
  rcases hg with rfl | rfl | rfl
  · exact ⟨fun t ht => (by cases ht), by kernel_rfl⟩
  · exact ⟨fun t ht => (by cases ht), by kernel_rfl⟩
  · exact ⟨fun t ht => (by cases ht), by kernel_rfl⟩
theorem one_F (t : By) : flF [([109], t)] [109] = some t := rfl
theorem plain_a (t : By) (h : ∀ c ∈ t, c ≠ 92) (hl : (toks t).length ≤ 100) : outX (expE Fl.nmOk (flF [([109], t)]) 3 100 [109]) = (toks t, [[109]], [], 0) := by
  unfold expE
  rw [one_F]
  simp only
  rw [run_plain _ _ 100 (toks t) _ rfl (no_command h) (by show 0 + _ ≤ _; omega)]
  rfl
theorem plain_full (t : By) (h : ∀ c ∈ t, c ≠ 92) (hl : 100 < (toks t).length) : (expE Fl.nmOk (flF [([109], t)]) 3 100 [109]).out.length = 100 ∧ (expE Fl.nmOk (flF [([109], t)]) 3 100 [109]).notes.length = 1 := by
  unfold expE
  rw [one_F]
  simp only
  obtain ⟨q1, q2⟩ := run_full Fl.nmOk (flF [([109], t)]) 100 (toks t) { (ex0 3).ask [109] with inp := toks t } rfl (no_command h) (Nat.zero_le _) (by show 100 < 0 + _; omega)
  exact ⟨q1, by rw [q2]; rfl⟩
theorem plain_b (t : By) (h : ∀ c ∈ t, c ≠ 92) (hl : (toks t).length ≤ 100) : outX (expE Fl.nmOk (flF [([109], tN ++ t)]) 3 100 [109]) = (toks t, [[109]], [], 0) := by
  unfold expE
  rw [one_F]
  simp only
  rw [run_def (gs := gN) (v := toks t) (b := [(7, [49]), (2, []), (1, [120]), (2, []), (7, [50])]) (n := [110, 101, 118, 101, 114]) (d := 2) (by show toks (tN ++ t) = _; rw [tN_front, tN_toks]; rfl) rfl gN_ok (by kernel_rfl) (by kernel_rfl) rfl (by kernel_rfl)]
  rw [run_plain _ _ 100 (toks t) _ rfl (no_command h) (by show 0 + _ ≤ _; omega)]
  rfl
end Go.Proofs.YtmnbepapgghdaaaGreat
