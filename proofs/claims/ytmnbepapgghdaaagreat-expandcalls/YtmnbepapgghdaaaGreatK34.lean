/-
  The laws of package expand: files that they hand in.
  Plain mathematics of the laws of layer 8. No program text in it.
  ExpandPlain: its mathematics.
  ExpandCalls: its mathematics.
  ExpandCalls: its mathematics, the second and the third call.
-/
import Derived.Test.YtmnbepapgghdaaaGreatK32
import Derived.Test.YtmnbepapgghdaaaGreatK33
import Derived.Test.YtmnbepapgghdaaaGreatK14
import Derived.Test.YtmnbepapgghdaaaGreatK15
import Derived.Test.YtmnbepapgghdaaaGreatK31
namespace Go.Proofs.YtmnbepapgghdaaaGreat
open Go.RowKit

namespace Fl
theorem put_mem {fs : List Fl} {f m : Fl} (h : m ∈ putL fs f) : m = f ∨ m ∈ fs := by
  unfold putL at h
  rcases List.mem_append.1 h with q | q
  · exact .inr (List.mem_filter.1 (List.takeWhile_prefix _ |>.sublist.subset q)).1
  · rcases List.mem_cons.1 q with q | q
    · exact .inl q
    · exact .inr (List.mem_filter.1 ((List.dropWhile_suffix _).sublist.subset q)).1
theorem foldl_txt (b : Nat) : ∀ (l : List Fl) (out : List Fl), (∀ f ∈ out, f.2.length ≤ b) → ∀ f ∈ l.foldl (stepL b) out, f.2.length ≤ b
  | [], _, h => h
  | f :: r, out, h => foldl_txt b r (stepL b out f) (by
    unfold stepL
    split
    · intro m hm
      rcases put_mem hm with rfl | hm
      · simp; omega
      · exact h m hm
    · exact h)
theorem mapL_txt (l : List Fl) (m b : Nat) : ∀ f ∈ mapL l m b, f.2.length ≤ b := foldl_txt b _ [] (fun f hf => by cases hf)
end Fl
set_option maxRecDepth 100000 in
theorem files_any (A : Option Addr) (c : Nat) (fs : List Fl.Fl) (w : World) (hr : Fl.Rd w A fs) (hfit : Hid (Fl.Fit fs)) (hl : fs.length ≤ 9223372036854775807) :
    Calls Tryz.prog 9 #[.slice A fs.length c] w (Fl.Res w (Fl.mapL fs 6 200)) := by
  have C := Lib.hid (Fl.map_any A c fs 6 200 w hr hfit hl (by omega) (by omega))
  obtain ⟨R, hR⟩ : ∃ R, Fl.mapL fs 6 200 = R := ⟨_, rfl⟩
  rw [hR] at C ⊢
  clear hR hfit
  go_enter Tryz.func9, Tryz.ntmps9
  go_wp2_with fail
  refine C.out.mono ?_
  rintro en w1 ⟨B, d, rfl, ho, hb⟩
  have HO := Lib.hid ho
  have HB := Lib.hid hb
  clear ho hb
  go_wp2
  go_ret
  exact ⟨B, d, rfl, HO.out, HB.out⟩
/-- What a law hands in. -/
theorem map_fs {w : World} {A : Option Addr} (fs : List Fl.Fl) (hr : Fl.Rd w A (Fl.mapL fs 6 200)) : Fs w A (Fl.mapL fs 6 200) :=
  ⟨hr, by have := Fl.mapL_len fs 6 200; omega, (Fl.mapL_good fs 6 200).1, fun f hf => by have := Fl.mapL_txt fs 6 200 f hf; omega⟩
theorem Fs.below {w w' : World} {A : Option Addr} {fs : List Fl.Fl} (h : Fs w A fs) (hb : Below w.heap.size w w') : Fs w' A fs := ⟨h.rd.below hb, h.len, h.srt, h.txt⟩
theorem sm_of {fs : List Fl.Fl} {fuel most : Nat} {main : By} (hf : fuel ≤ 50) (hm : most ≤ 900) (hs : ∀ f ∈ fs, f.2.length ≤ 1000) : Sm (outX (expE Fl.nmOk (flF fs) fuel most main)) := by
  have h := expE_fine (main := main) hf hm hs
  exact ⟨by show (expE Fl.nmOk (flF fs) fuel most main).out.length ≤ _; have := h.out; omega, by show (expE Fl.nmOk (flF fs) fuel most main).reads.length ≤ _; have := h.reads; omega, by show (expE Fl.nmOk (flF fs) fuel most main).notes.length ≤ _; have := h.notes; omega⟩
theorem expE_used (ok : By → Bool) (F : By → Option By) (fuel most : Nat) (main : By) : (expE ok F fuel most main).used ≤ fuel := by
  unfold expE
  split
  · exact Nat.zero_le _
  · rename_i t _
    have := run_used ok F most { (ex0 fuel).ask main with inp := toks t }
    have e1 : ({ (ex0 fuel).ask main with inp := toks t } : Ex).used = 0 := rfl
    have e2 : ({ (ex0 fuel).ask main with inp := toks t } : Ex).fuel = fuel := rfl
    omega
theorem expE_out {ok : By → Bool} {F : By → Option By} {fuel most : Nat} {main : By} : (expE ok F fuel most main).out.length ≤ most := by
  unfold expE
  split
  · exact Nat.zero_le _
  · exact run_out ok F most _ (Nat.zero_le _)
theorem expE_up {ok : By → Bool} {F : By → Option By} {fuel most : Nat} {main : By} (m d : Nat) (h : (expE ok F fuel most main).notes = []) : outX (expE ok F (fuel + d) (most + m) main) = outX (expE ok F fuel most main) := by
  unfold expE at h ⊢
  split
  · rename_i hF; rw [hF] at h; cases h
  · rename_i t hF
    rw [hF] at h
    have h : (runE ok F most { (ex0 fuel).ask main with inp := toks t }).notes = [] := h
    have := run_up (ok := ok) (F := F) (most := most) m d { (ex0 fuel).ask main with inp := toks t } (by rw [h]; rfl)
    have e : ({ (ex0 (fuel + d)).ask main with inp := toks t } : Ex) = Ex.up { (ex0 fuel).ask main with inp := toks t } d := rfl
    rw [e, this]
    rfl
end Go.Proofs.YtmnbepapgghdaaaGreat

namespace Go.Proofs.YtmnbepapgghdaaaGreat

/-- What comes next is groups, and a text behind. -/
theorem argsW_now {gs : List (List Tok × List Tok)} {v : List Tok} {s : By} (h : ∀ g ∈ gs, (∀ t ∈ g.1, t.1 = 2) ∧ balG 0 g.2 = true) (hw : wordO ((gs.map (·.2)).headD []) = some s) : argsW (gpsL gs ++ v) gs.length = some (gs.map (·.2), s, (gpsL gs).length) := by
  unfold argsW
  rw [args_now gs v h]
  simp only [hw]
/-- A definition. -/
theorem run_def {ok : By → Bool} {F : By → Option By} {most : Nat} {e : Ex} {gs : List (List Tok × List Tok)} {v b : List Tok} {n : By} {d : Int} (hi : e.inp = (4, sDef) :: (gpsL gs ++ v)) (hl : gs.length = 3) (h : ∀ g ∈ gs, (∀ t ∈ g.1, t.1 = 2) ∧ balG 0 g.2 = true)
    (hw : wordO ((gs.map (·.2)).headD []) = some n) (hd : digO ((gs.map (·.2)).getD 1 []) = some d) (hb : (gs.map (·.2)).getD 2 [] = b) (hp : putE e.ms (n, d, b) = 0) : runE ok F most e = runE ok F most { e with inp := v, ms := putL e.ms (n, d, b) } := by
  have ha := argsW_now (v := v) h hw
  rw [hl] at ha
  refine run_next ?_
  unfold stepE
  rw [hi]
  simp only [if_true]
  unfold cmdE defE
  simp only [if_true, ha, hd, hb, hp, Ex.go, List.drop_left]
/-- A macro is asked for. -/
theorem run_call {ok : By → Bool} {F : By → Option By} {most : Nat} {e : Ex} {gs : List (List Tok × List Tok)} {v b : List Tok} {n : By} {d : Int} (hi : e.inp = (4, n) :: (gpsL gs ++ v)) (hl : d.toNat = gs.length) (h : ∀ g ∈ gs, (∀ t ∈ g.1, t.1 = 2) ∧ balG 0 g.2 = true)
    (hn : n ≠ sDef ∧ n ≠ sUndef ∧ n ≠ sIfdef ∧ n ≠ sInc) (hg : getL e.ms n = some (d, b)) (hf : e.fuel ≠ 0) (hm : (fillL b (gs.map (·.2))).length + v.length ≤ most) : runE ok F most e = runE ok F most { e with inp := fillL b (gs.map (·.2)) ++ v, fuel := e.fuel - 1, used := e.used + 1 } := by
  have ha := args_now gs v h
  refine run_next ?_
  unfold stepE
  rw [hi]
  simp only [if_true]
  unfold cmdE callE
  rw [if_neg hn.1, if_neg hn.2.1, if_neg hn.2.2.1, if_neg hn.2.2.2]
  simp only [hg, Option.map_some, hl, ha, if_neg hf, Ex.go, Ex.burn, Ex.come, List.drop_left]
  rw [if_neg (by omega)]
/-- A macro is undone. -/
theorem run_undef {ok : By → Bool} {F : By → Option By} {most : Nat} {e : Ex} {g : List Tok × List Tok} {v : List Tok} {n : By} (hi : e.inp = (4, sUndef) :: (gpsL [g] ++ v)) (h : (∀ t ∈ g.1, t.1 = 2) ∧ balG 0 g.2 = true) (hw : wordO g.2 = some n) :
    runE ok F most e = runE ok F most { e with inp := v, ms := dropL e.ms n } := by
  have ha := argsW_now (gs := [g]) (v := v) (s := n) (fun x hx => by simp at hx; subst hx; exact h) (by simpa using hw)
  refine run_next ?_
  unfold stepE
  rw [hi]
  simp only [if_true]
  unfold cmdE undefE
  rw [if_neg (by decide), if_pos rfl]
  simp only [List.length_cons, List.length_nil, Nat.zero_add] at ha
  simp only [ha, Ex.go, List.drop_left]
/-- A command that nothing knows is put out. -/
theorem run_other {ok : By → Bool} {F : By → Option By} {most : Nat} {e : Ex} {n : By} {v : List Tok} (hi : e.inp = (4, n) :: v) (hn : n ≠ sDef ∧ n ≠ sUndef ∧ n ≠ sIfdef ∧ n ≠ sInc) (hg : getL e.ms n = none) (ho : e.out.length < most) :
    runE ok F most e = runE ok F most { e with inp := v, out := e.out ++ [(4, n)] } := by
  refine run_next ?_
  unfold stepE
  rw [hi]
  simp only [if_true]
  unfold cmdE
  rw [if_neg hn.1, if_neg hn.2.1, if_neg hn.2.2.1, if_neg hn.2.2.2]
  simp only [hg, Option.map_none]
  rw [if_neg (by omega)]
/-- Tokens that are no commands go out first. -/
theorem run_puts {ok : By → Bool} {F : By → Option By} {most : Nat} : ∀ (l : List Tok) (v : List Tok) (e : Ex), e.inp = l ++ v → (∀ t ∈ l, t.1 ≠ 4) → e.out.length + l.length ≤ most → runE ok F most e = runE ok F most { e with inp := v, out := e.out ++ l }
  | [], v, e, hi, _, _ => by cases e; simp at hi; subst hi; simp
  | t :: r, v, e, hi, h4, hl => by
    simp at hl
    rw [run_next (by rw [step_put hi (h4 t (by simp)), if_neg (by omega)]), run_puts r v _ rfl (fun x hx => h4 x (by simp [hx])) (by simp; omega)]
    simp
end Go.Proofs.YtmnbepapgghdaaaGreat

namespace Go.Proofs.YtmnbepapgghdaaaGreat
open Go.RowKit

/-- The definition that nothing asks for. -/
def tN : By := [92, 100, 101, 102, 123, 110, 101, 118, 101, 114, 125, 123, 50, 125, 123, 35, 49, 32, 120, 32, 35, 50, 125]
def gN : List (List Tok × List Tok) := [([], [(1, [110, 101, 118, 101, 114])]), ([], [(1, [50])]), ([], [(7, [49]), (2, []), (1, [120]), (2, []), (7, [50])])]
theorem tN_toks : toks tN = (4, sDef) :: gpsL gN := by kernel_rfl
theorem tN_text : textL (toks tN) = tN := by kernel_rfl
theorem tN_right : rightL (toks tN) = true := by kernel_rfl
theorem tN_last : (toks tN).getLast? = some (6, []) := by kernel_rfl
theorem tN_front (t : By) : toks (tN ++ t) = toks tN ++ toks t := by
  have h := toks_front (toks tN) t tN_right (fun x hx => by
    rw [tN_last] at hx
    cases hx
    exact ⟨fun h => absurd h (by decide), fun h => absurd h (by decide), fun h => absurd h (by decide)⟩)
  rwa [tN_text] at h
theorem gN_ok : ∀ g ∈ gN, (∀ t ∈ g.1, t.1 = 2) ∧ balG 0 g.2 = true := by
  intro g hg
  simp only [gN, List.mem_cons, List.not_mem_nil, or_false] at hg
  rcases hg with rfl | rfl | rfl
  · exact ⟨fun t ht => (by cases ht), by kernel_rfl⟩
  · exact ⟨fun t ht => (by cases ht), by kernel_rfl⟩
  · exact ⟨fun t ht => (by cases ht), by kernel_rfl⟩
theorem one_F (t : By) : flF [([109], t)] [109] = some t := rfl
theorem plain_a (t : By) (h : ∀ c ∈ t, c ≠ 92) (hl : (toks t).length ≤ 100) : outX (expE Fl.nmOk (flF [([109], t)]) 3 100 [109]) = (toks t, [[109]], [], 0) := by
  unfold expE
  rw [one_F]
  simp only
  rw [run_plain _ _ 100 (toks t) _ rfl (no_command h) (by show 0 + _ ≤ _; omega)]
  rfl
theorem plain_full (t : By) (h : ∀ c ∈ t, c ≠ 92) (hl : 100 < (toks t).length) : (expE Fl.nmOk (flF [([109], t)]) 3 100 [109]).out.length = 100 ∧ (expE Fl.nmOk (flF [([109], t)]) 3 100 [109]).notes.length = 1 := by
  unfold expE
  rw [one_F]
  simp only
  obtain ⟨q1, q2⟩ := run_full Fl.nmOk (flF [([109], t)]) 100 (toks t) { (ex0 3).ask [109] with inp := toks t } rfl (no_command h) (Nat.zero_le _) (by show 100 < 0 + _; omega)
  exact ⟨q1, by rw [q2]; rfl⟩
theorem plain_b (t : By) (h : ∀ c ∈ t, c ≠ 92) (hl : (toks t).length ≤ 100) : outX (expE Fl.nmOk (flF [([109], tN ++ t)]) 3 100 [109]) = (toks t, [[109]], [], 0) := by
  unfold expE
  rw [one_F]
  simp only
  rw [run_def (gs := gN) (v := toks t) (b := [(7, [49]), (2, []), (1, [120]), (2, []), (7, [50])]) (n := [110, 101, 118, 101, 114]) (d := 2) (by show toks (tN ++ t) = _; rw [tN_front, tN_toks]; rfl) rfl gN_ok (by kernel_rfl) (by kernel_rfl) rfl (by kernel_rfl)]
  rw [run_plain _ _ 100 (toks t) _ rfl (no_command h) (by show 0 + _ ≤ _; omega)]
  rfl
end Go.Proofs.YtmnbepapgghdaaaGreat

namespace Go.Proofs.YtmnbepapgghdaaaGreat
open Go.RowKit

def sPair : By := [112, 97, 105, 114]
def tP : By := [92, 100, 101, 102, 123, 112, 97, 105, 114, 125, 123, 50, 125, 123, 35, 50, 32, 35, 49, 125, 92, 112, 97, 105, 114, 123]
def gP : List (List Tok × List Tok) := [([], [(1, sPair)]), ([], [(1, [50])]), ([], [(7, [50]), (2, []), (7, [49])])]
def tMid : By := [125, 32, 123]
theorem tP_toks : toks tP = (4, sDef) :: (gpsL gP ++ [(4, sPair), (5, [])]) := by kernel_rfl
theorem tMid_toks : toks tMid = [(6, []), (2, []), (5, [])] := by kernel_rfl
/-- A known text at the front, whose last token stands for itself. -/
theorem front_six {p u : By} {k : Int} (h1 : textL (toks p) = p) (h2 : rightL (toks p) = true) (h3 : (toks p).getLast? = some (k, [])) (hk : k = 5 ∨ k = 6) : toks (p ++ u) = toks p ++ toks u := by
  have h := toks_front (toks p) u h2 (fun x hx => by
    rw [h3] at hx
    cases hx
    rcases hk with rfl | rfl
    · exact ⟨fun h => absurd h (by decide), fun h => absurd h (by decide), fun h => absurd h (by decide)⟩
    · exact ⟨fun h => absurd h (by decide), fun h => absurd h (by decide), fun h => absurd h (by decide)⟩)
  rwa [h1] at h
theorem sim_then (s u : By) (hs : Sim s) (hu : hk u ≠ 1) : toks (s ++ u) = toks s ++ toks u := toks_sim u hu _ s (Nat.le_refl _) hs
theorem hk125 (r : By) : hk (125 :: r) ≠ 1 := by
  have : hk (125 :: r) = 6 := rfl
  rw [this]; decide
theorem hk32 (r : By) : hk (32 :: r) ≠ 1 := by
  have : hk (32 :: r) = 2 := blank_kd r
  rw [this]; decide
theorem calls_toks (s t : By) (hs : Sim s) (ht : Sim t) : toks (tP ++ (s ++ (tMid ++ (t ++ [125])))) = (4, sDef) :: (gpsL gP ++ ((4, sPair) :: (gpsL [([], toks s), ([(2, [])], toks t)] ++ []))) := by
  rw [front_six (p := tP) (k := 5) (by kernel_rfl) (by kernel_rfl) (by kernel_rfl) (.inl rfl), sim_then s (tMid ++ (t ++ [125])) hs (hk125 (32 :: 123 :: (t ++ [125]))), front_six (p := tMid) (k := 5) (by kernel_rfl) (by kernel_rfl) (by kernel_rfl) (.inl rfl), sim_then t _ ht (by decide), tP_toks, tMid_toks]
  have e : toks [125] = [(6, [])] := by kernel_rfl
  rw [e]
  simp [gpsL]
theorem sim_bal {s : By} (h : Sim s) : balG 0 (toks s) = true := by
  rw [bal_flat 0 (fun t ht => by rcases sim_kinds h.1 t ht with q | q | q <;> rw [q] <;> decide)]
  rfl
theorem sim_no {s : By} (h : Sim s) : ∀ t ∈ toks s, t.1 ≠ 4 := fun t ht => by rcases sim_kinds h.1 t ht with q | q | q <;> rw [q] <;> decide
theorem gP_ok : ∀ g ∈ gP, (∀ t ∈ g.1, t.1 = 2) ∧ balG 0 g.2 = true := by
  intro g hg
  simp only [gP, List.mem_cons, List.not_mem_nil, or_false] at hg
  rcases hg with rfl | rfl | rfl
  · exact ⟨fun t ht => (by cases ht), by kernel_rfl⟩
  · exact ⟨fun t ht => (by cases ht), by kernel_rfl⟩
  · exact ⟨fun t ht => (by cases ht), by kernel_rfl⟩
theorem fill_pair (x y : List Tok) : fillL [(7, [50]), (2, []), (7, [49])] [x, y] = y ++ ((2, []) :: x) := by
  have e1 : fillT [x, y] (7, [50]) = y := by unfold fillT; rfl
  have e2 : fillT [x, y] (7, [49]) = x := by unfold fillT; rfl
  have e3 : fillT [x, y] (2, []) = [(2, [])] := by unfold fillT; rfl
  simp [fillL, e1, e2, e3]
theorem calls_a (s t : By) (hs : Sim s) (ht : Sim t) (ls : s.length ≤ 40) (lt : t.length ≤ 40) :
    outX (expE Fl.nmOk (flF [([109], tP ++ (s ++ (tMid ++ (t ++ [125]))))]) 9 100 [109]) = (toks t ++ ((2, []) :: toks s), [[109]], [], 1) := by
  have l1 := toks_len s
  have l2 := toks_len t
  unfold expE
  rw [one_F]
  simp only
  rw [run_def (gs := gP) (v := (4, sPair) :: (gpsL [([], toks s), ([(2, [])], toks t)] ++ [])) (b := [(7, [50]), (2, []), (7, [49])]) (n := sPair) (d := 2) (by show toks _ = _; rw [calls_toks s t hs ht]) rfl gP_ok (by kernel_rfl) (by kernel_rfl) rfl (by kernel_rfl)]
  rw [run_call (gs := [([], toks s), ([(2, [])], toks t)]) (v := []) (b := [(7, [50]), (2, []), (7, [49])]) (n := sPair) (d := 2) rfl rfl (fun g hg => by
    simp only [List.mem_cons, List.not_mem_nil, or_false] at hg
    rcases hg with rfl | rfl
    · exact ⟨fun t ht => (by cases ht), sim_bal hs⟩
    · exact ⟨fun t ht => by simp at ht; rw [ht], sim_bal ht⟩) (by decide) (by kernel_rfl) (by show (9 : Nat) ≠ 0; omega) (by simp only [List.map_cons, List.map_nil]; rw [fill_pair]; simp; omega)]
  simp only [List.map_cons, List.map_nil]
  rw [fill_pair]
  rw [run_plain _ _ 100 (toks t ++ ((2, []) :: toks s)) _ (by simp) (fun x hx => by
    rcases List.mem_append.1 hx with h | h
    · exact sim_no ht x h
    · rcases List.mem_cons.1 h with rfl | h
      · decide
      · exact sim_no hs x h) (by show 0 + _ ≤ _; simp; omega)]
  rfl
/-- What the law compares it with. -/
theorem calls_a_want (s t : By) (hs : Sim s) (ht : Sim t) (h : hk s = 1) : toks (t ++ (32 :: s)) = toks t ++ ((2, []) :: toks s) := by
  rw [sim_then t (32 :: s) ht (hk32 s)]
  have e : toks ([32] ++ s) = [(2, [])] ++ toks s := toks_front [(2, [])] s (by kernel_rfl) (fun x hx => by
    simp at hx
    subst hx
    exact ⟨fun q => absurd q (by decide), fun _ => by rw [h]; decide, fun q => absurd q (by decide)⟩)
  have e' : toks (32 :: s) = (2, []) :: toks s := e
  rw [e']
end Go.Proofs.YtmnbepapgghdaaaGreat

namespace Go.Proofs.YtmnbepapgghdaaaGreat
open Go.RowKit

def sOne : By := [111, 110, 101]
def sIn : By := [105, 110]
def sOut : By := [111, 117, 116]
def tO1 : By := [92, 100, 101, 102, 123, 111, 110, 101, 125, 123, 48, 125, 123]
def tO2 : By := [125, 92, 117, 110, 100, 101, 102, 123, 111, 110, 101, 125, 92, 111, 110, 101]
def tB1 : By := [92, 100, 101, 102, 123, 105, 110, 125, 123, 48, 125, 123, 92, 111, 117, 116, 125, 92, 100, 101, 102, 123, 111, 117, 116, 125, 123, 48, 125, 123]
def tB2 : By := [125, 92, 105, 110, 123, 125, 92, 100, 101, 102, 123, 111, 117, 116, 125, 123, 48, 125, 123]
def tB3 : By := [125, 92, 105, 110]
theorem gs3_ok {n d : By} {b : List Tok} (h1 : balG 0 [(1, n)] = true) (h2 : balG 0 [(1, d)] = true) (h3 : balG 0 b = true) : ∀ g ∈ ([([], [(1, n)]), ([], [(1, d)]), ([], b)] : List (List Tok × List Tok)), (∀ t ∈ g.1, t.1 = 2) ∧ balG 0 g.2 = true := by
  intro g hg
  simp only [List.mem_cons, List.not_mem_nil, or_false] at hg
  rcases hg with rfl | rfl | rfl
  · exact ⟨fun t ht => (by cases ht), h1⟩
  · exact ⟨fun t ht => (by cases ht), h2⟩
  · exact ⟨fun t ht => (by cases ht), h3⟩
theorem tO1_toks : toks tO1 = [(4, sDef), (5, []), (1, sOne), (6, []), (5, []), (1, [48]), (6, []), (5, [])] := by kernel_rfl
theorem tO2_toks : toks tO2 = [(6, []), (4, sUndef), (5, []), (1, sOne), (6, []), (4, sOne)] := by kernel_rfl
theorem one_toks (s : By) (hs : Sim s) : toks (tO1 ++ (s ++ tO2)) = (4, sDef) :: (gpsL [([], [(1, sOne)]), ([], [(1, [48])]), ([], toks s)] ++ ((4, sUndef) :: (gpsL [([], [(1, sOne)])] ++ [(4, sOne)]))) := by
  rw [front_six (p := tO1) (k := 5) (by kernel_rfl) (by kernel_rfl) (by kernel_rfl) (.inl rfl), sim_then s tO2 hs (by decide), tO1_toks, tO2_toks]
  simp [gpsL]
theorem calls_c (s : By) (hs : Sim s) : outX (expE Fl.nmOk (flF [([109], tO1 ++ (s ++ tO2))]) 9 100 [109]) = ([(4, sOne)], [[109]], [], 0) := by
  unfold expE
  rw [one_F]
  simp only
  rw [run_def (gs := [([], [(1, sOne)]), ([], [(1, [48])]), ([], toks s)]) (v := (4, sUndef) :: (gpsL [([], [(1, sOne)])] ++ [(4, sOne)])) (b := toks s) (n := sOne) (d := 0) (by show toks _ = _; rw [one_toks s hs]) rfl (gs3_ok (by kernel_rfl) (by kernel_rfl) (sim_bal hs)) rfl rfl rfl rfl]
  rw [run_undef (g := ([], [(1, sOne)])) (v := [(4, sOne)]) (n := sOne) rfl ⟨fun t ht => (by cases ht), by kernel_rfl⟩ rfl]
  rw [run_other (n := sOne) (v := []) rfl (by decide) rfl (by show 0 < 100; omega)]
  rw [run_end rfl]
  rfl
theorem tB1_toks : toks tB1 = [(4, sDef), (5, []), (1, sIn), (6, []), (5, []), (1, [48]), (6, []), (5, []), (4, sOut), (6, []), (4, sDef), (5, []), (1, sOut), (6, []), (5, []), (1, [48]), (6, []), (5, [])] := by kernel_rfl
theorem tB2_toks : toks tB2 = [(6, []), (4, sIn), (5, []), (6, []), (4, sDef), (5, []), (1, sOut), (6, []), (5, []), (1, [48]), (6, []), (5, [])] := by kernel_rfl
theorem tB3_toks : toks tB3 = [(6, []), (4, sIn)] := by kernel_rfl
def vB (y : List Tok) : List Tok := (4, sDef) :: (gpsL [([], [(1, sOut)]), ([], [(1, [48])]), ([], y)] ++ [(4, sIn)])
theorem both_toks (s t : By) (hs : Sim s) (ht : Sim t) : toks (tB1 ++ (s ++ (tB2 ++ (t ++ tB3)))) = (4, sDef) :: (gpsL [([], [(1, sIn)]), ([], [(1, [48])]), ([], [(4, sOut)])] ++ ((4, sDef) :: (gpsL [([], [(1, sOut)]), ([], [(1, [48])]), ([], toks s)] ++ ((4, sIn) :: (gpsL [] ++ ((5, []) :: (6, []) :: vB (toks t))))))) := by
  rw [front_six (p := tB1) (k := 5) (by kernel_rfl) (by kernel_rfl) (by kernel_rfl) (.inl rfl), sim_then s (tB2 ++ (t ++ tB3)) hs (hk125 _), front_six (p := tB2) (k := 5) (by kernel_rfl) (by kernel_rfl) (by kernel_rfl) (.inl rfl), sim_then t tB3 ht (by decide), tB1_toks, tB2_toks, tB3_toks]
  simp [gpsL, vB]
theorem fill_none (b : List Tok) (h : ∀ t ∈ b, t.1 ≠ 7) : fillL b [] = b := by
  unfold fillL
  induction b with
  | nil => rfl
  | cons t r ih =>
    rw [List.flatMap_cons, ih (fun x hx => h x (List.mem_cons_of_mem _ hx))]
    unfold fillT
    rw [if_neg (h t List.mem_cons_self)]
    rfl
theorem sim_no7 {s : By} (h : Sim s) : ∀ t ∈ toks s, t.1 ≠ 7 := fun t ht => by rcases sim_kinds h.1 t ht with q | q | q <;> rw [q] <;> decide
set_option maxRecDepth 100000 in
set_option maxHeartbeats 4000000 in
theorem calls_b (s t : By) (hs : Sim s) (ht : Sim t) (ls : s.length ≤ 40) (lt : t.length ≤ 40) :
    outX (expE Fl.nmOk (flF [([109], tB1 ++ (s ++ (tB2 ++ (t ++ tB3))))]) 9 100 [109]) = (toks s ++ ((5, []) :: (6, []) :: toks t), [[109]], [], 4) := by
  have l1 := toks_len s
  have l2 := toks_len t
  unfold expE
  rw [one_F]
  simp only
  rw [run_def (gs := [([], [(1, sIn)]), ([], [(1, [48])]), ([], [(4, sOut)])]) (v := (4, sDef) :: (gpsL [([], [(1, sOut)]), ([], [(1, [48])]), ([], toks s)] ++ ((4, sIn) :: (gpsL [] ++ ((5, []) :: (6, []) :: vB (toks t)))))) (b := [(4, sOut)]) (n := sIn) (d := 0) (by show toks _ = _; rw [both_toks s t hs ht]) rfl (gs3_ok (by kernel_rfl) (by kernel_rfl) (by kernel_rfl)) rfl rfl rfl rfl]
  rw [run_def (gs := [([], [(1, sOut)]), ([], [(1, [48])]), ([], toks s)]) (v := (4, sIn) :: (gpsL [] ++ ((5, []) :: (6, []) :: vB (toks t)))) (b := toks s) (n := sOut) (d := 0) rfl rfl (gs3_ok (by kernel_rfl) (by kernel_rfl) (sim_bal hs)) rfl rfl rfl rfl]
  rw [run_call (gs := []) (v := (5, []) :: (6, []) :: vB (toks t)) (b := [(4, sOut)]) (n := sIn) (d := 0) rfl rfl (fun g hg => by cases hg) (by decide) rfl (by show (9 : Nat) ≠ 0; omega) (by simp [fillL, fillT, vB, gpsL]; omega)]
  have f1 : fillL [(4, sOut)] (List.map (fun x => x.2) ([] : List (List Tok × List Tok))) = [(4, sOut)] := fill_none _ (by decide)
  have f2 : fillL (toks s) (List.map (fun x => x.2) ([] : List (List Tok × List Tok))) = toks s := fill_none _ (sim_no7 hs)
  have f3 : fillL (toks t) (List.map (fun x => x.2) ([] : List (List Tok × List Tok))) = toks t := fill_none _ (sim_no7 ht)
  rw [f1]
  rw [run_call (gs := []) (v := (5, []) :: (6, []) :: vB (toks t)) (b := toks s) (n := sOut) (d := 0) rfl rfl (fun g hg => by cases hg) (by decide) rfl (by show (8 : Nat) ≠ 0; omega) (by rw [f2]; simp [vB, gpsL]; omega)]
  rw [f2]
  rw [run_puts (toks s ++ [(5, []), (6, [])]) (vB (toks t)) _ (by simp) (fun x hx => by
    rcases List.mem_append.1 hx with h | h
    · exact sim_no hs x h
    · simp at h; rcases h with rfl | rfl <;> decide) (by show 0 + _ ≤ _; simp; omega)]
  rw [run_def (gs := [([], [(1, sOut)]), ([], [(1, [48])]), ([], toks t)]) (v := [(4, sIn)]) (b := toks t) (n := sOut) (d := 0) rfl rfl (gs3_ok (by kernel_rfl) (by kernel_rfl) (sim_bal ht)) rfl rfl rfl rfl]
  rw [run_call (gs := []) (v := []) (b := [(4, sOut)]) (n := sIn) (d := 0) rfl rfl (fun g hg => by cases hg) (by decide) rfl (by show (7 : Nat) ≠ 0; omega) (by rw [f1]; simp)]
  rw [f1]
  rw [run_call (gs := []) (v := []) (b := toks t) (n := sOut) (d := 0) rfl rfl (fun g hg => by cases hg) (by decide) rfl (by show (6 : Nat) ≠ 0; omega) (by rw [f3]; simp; omega)]
  rw [f3]
  rw [run_plain _ _ 100 (toks t) _ (by simp) (sim_no ht) (by show ([] ++ (toks s ++ [(5, []), (6, [])])).length + _ ≤ _; simp; omega)]
  simp [outX, ex0, Ex.ask]
/-- What the law compares it with. -/
theorem calls_b_want (s t : By) (hs : Sim s) : toks (s ++ ([123, 125] ++ t)) = toks s ++ ((5, []) :: (6, []) :: toks t) := by
  rw [sim_then s ([123, 125] ++ t) hs (show hk (123 :: (125 :: t)) ≠ 1 by rw [show hk (123 :: (125 :: t)) = 5 from rfl]; decide), front_six (p := [123, 125]) (k := 6) (by kernel_rfl) (by kernel_rfl) (by kernel_rfl) (.inr rfl)]
  rfl
end Go.Proofs.YtmnbepapgghdaaaGreat
