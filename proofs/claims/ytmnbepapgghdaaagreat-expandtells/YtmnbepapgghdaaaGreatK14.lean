/-
  Plain mathematics of expansions (layer 8): one step, all of them. No program text in it.
-/
import Derived.Test.YtmnbepapgghdaaaGreatK01
import Derived.Test.YtmnbepapgghdaaaGreatK08
namespace Go.Proofs.YtmnbepapgghdaaaGreat

/-- An expansion that goes on. -/
structure Ex where
  inp : List Tok
  ms : List Ml
  fuel : Nat
  out : List Tok
  reads : List By
  notes : List (Int × By)
  used : Nat
namespace Ex
def note (e : Ex) (k : Int) (s : By) : Ex := { e with notes := e.notes ++ [(k, s)] }
def ask (e : Ex) (n : By) : Ex := { e with reads := if n ∈ e.reads then e.reads else e.reads ++ [n] }
def go (e : Ex) (p : Nat) : Ex := { e with inp := e.inp.drop p }
def burn (e : Ex) : Ex := { e with fuel := e.fuel - 1, used := e.used + 1 }
def come (e : Ex) (most : Nat) (n : By) (l : List Tok) : Ex := if most < l.length + e.inp.length then e.note 3 n else { e with inp := l ++ e.inp }
end Ex
def sDef : By := [100, 101, 102]
def sUndef : By := [117, 110, 100, 101, 102]
def sIfdef : By := [105, 102, 100, 101, 102]
def sInc : By := [105, 110, 99, 108, 117, 100, 101]
def wordO (l : List Tok) : Option By := match l with
  | [t] => if t.1 = 1 then some t.2 else none
  | _ => none
def argsW (l : List Tok) (n : Nat) : Option (List (List Tok) × By × Nat) := match argsG l n 0 with
  | none => none
  | some (x, p) => match wordO (x.headD []) with
    | none => none
    | some s => some (x, s, p)
def digO (l : List Tok) : Option Int := match wordO l with
  | some [c] => if 48 ≤ c.toNat ∧ c.toNat ≤ 57 then some ((c.toNat : Int) - 48) else none
  | _ => none
def defE (e : Ex) : Ex := match argsW e.inp 3 with
  | none => e.note 10 sDef
  | some (x, s, p) => match digO (x.getD 1 []) with
    | none => e.note 10 sDef
    | some d => if putE e.ms (s, d, x.getD 2 []) = 0 then { e.go p with ms := putL e.ms (s, d, x.getD 2 []) } else (e.go p).note (putE e.ms (s, d, x.getD 2 [])) s
def undefE (e : Ex) : Ex := match argsW e.inp 1 with
  | none => e.note 10 sUndef
  | some (_, s, p) => { e.go p with ms := dropL e.ms s }
def ifdefE (e : Ex) : Ex := match argsW e.inp 3 with
  | none => e.note 10 sIfdef
  | some (x, s, p) => { e with inp := (if hasL e.ms s then x.getD 1 [] else x.getD 2 []) ++ e.inp.drop p }
def incE (ok : By → Bool) (F : By → Option By) (most : Nat) (e : Ex) : Ex := match argsW e.inp 1 with
  | none => e.note 10 sInc
  | some (_, s, p) =>
    if ok s = false then (e.go p).note 2 s else if 32 ≤ e.reads.length ∧ s ∉ e.reads then (e.go p).note 3 s else if e.fuel = 0 then (e.go p).note 9 s else
    match F s with
    | none => ((e.go p).burn.ask s).note 4 s
    | some t => ((e.go p).burn.ask s).come most s (toks t)
def callE (most : Nat) (e : Ex) (s : By) (m : Mv) : Ex := match argsG e.inp m.1.toNat 0 with
  | none => e.note 10 s
  | some (x, p) => if e.fuel = 0 then (e.go p).note 9 s else (e.go p).burn.come most s (fillL m.2 x)
/-- What a command's name does, if it is known; the token is taken away already. -/
def cmdE (ok : By → Bool) (F : By → Option By) (most : Nat) (e : Ex) (s : By) : Option Ex :=
  if s = sDef then some (defE e) else if s = sUndef then some (undefE e) else if s = sIfdef then some (ifdefE e) else if s = sInc then some (incE ok F most e) else
  (getL e.ms s).map (callE most e s)
/-- One step; no: it ends there. -/
def stepE (ok : By → Bool) (F : By → Option By) (most : Nat) (e : Ex) : Option (Bool × Ex) := match e.inp with
  | [] => none
  | t :: r => match (if t.1 = 4 then cmdE ok F most { e with inp := r } t.2 else none) with
    | some e2 => some (true, e2)
    | none => if most ≤ e.out.length then some (false, Ex.note { e with inp := r } 3 []) else some (true, { e with inp := r, out := e.out ++ [t] })

/-! ### what a step leaves as it is, and what it lessens -/
theorem args_part {l : List Tok} : ∀ {n a : Nat} {x : List (List Tok)} {p : Nat}, argsG l n a = some (x, p) → a ≤ l.length → a ≤ p ∧ p ≤ l.length ∧ ∀ y ∈ x, y.length ≤ p
  | 0, a, x, p, h, ha => by simp [argsG] at h; obtain ⟨rfl, rfl⟩ := h; simp; exact ha
  | n + 1, a, x, p, h, ha => by
    unfold argsG at h
    cases hp : grpN l (skipN l a) with
    | none => rw [hp] at h; cases h
    | some q =>
      rw [hp] at h
      simp only at h
      obtain ⟨g1, g2, g3, _⟩ := grp_some hp
      have hs := (skip_le ha).1
      cases hx : argsG l n q with
      | none => rw [hx] at h; cases h
      | some y =>
        obtain ⟨y, p'⟩ := y
        rw [hx] at h
        simp at h
        obtain ⟨rfl, rfl⟩ := h
        obtain ⟨i1, i2, i3⟩ := args_part hx g3
        refine ⟨by omega, i2, fun z hz => ?_⟩
        simp at hz
        rcases hz with rfl | hz
        · unfold within; rw [List.length_take, List.length_drop]; omega
        · exact i3 z hz
theorem argsW_some {l : List Tok} {n : Nat} {x : List (List Tok)} {s : By} {p : Nat} (h : argsW l n = some (x, s, p)) : argsG l n 0 = some (x, p) ∧ wordO (x.headD []) = some s := by
  unfold argsW at h
  cases hg : argsG l n 0 with
  | none => rw [hg] at h; cases h
  | some y =>
    obtain ⟨y, q⟩ := y
    rw [hg] at h
    simp only at h
    cases hw : wordO (y.headD []) with
    | none => rw [hw] at h; cases h
    | some u =>
      rw [hw] at h
      simp at h
      obtain ⟨rfl, rfl, rfl⟩ := h
      exact ⟨rfl, hw⟩
theorem getD_len {x : List (List Tok)} {p i : Nat} (h : ∀ y ∈ x, y.length ≤ p) : (x.getD i []).length ≤ p := by
  rw [List.getD_eq_getElem?_getD]
  cases hx : x[i]? with
  | none => simp
  | some y => exact h y (List.mem_of_getElem? hx)
/-- Less than: fuel first, then what is to come. -/
def Less (e' e : Ex) : Prop := e'.fuel < e.fuel ∨ e'.fuel = e.fuel ∧ e'.inp.length < e.inp.length
/-- No more. -/
def NoMore (e' e : Ex) : Prop := e'.fuel < e.fuel ∨ e'.fuel = e.fuel ∧ e'.inp.length ≤ e.inp.length
theorem def_more (e : Ex) : NoMore (defE e) e := by
  unfold defE
  split
  · exact .inr ⟨rfl, Nat.le_refl _⟩
  · split
    · exact .inr ⟨rfl, Nat.le_refl _⟩
    · split
      · exact .inr ⟨rfl, by simp [Ex.go]⟩
      · exact .inr ⟨rfl, by simp [Ex.go, Ex.note]⟩
theorem undef_more (e : Ex) : NoMore (undefE e) e := by
  unfold undefE
  split
  · exact .inr ⟨rfl, Nat.le_refl _⟩
  · exact .inr ⟨rfl, by simp [Ex.go]⟩
theorem ifdef_more (e : Ex) : NoMore (ifdefE e) e := by
  unfold ifdefE
  split
  · exact .inr ⟨rfl, Nat.le_refl _⟩
  · rename_i x s p h
    obtain ⟨h1, h2, h3⟩ := args_part (argsW_some h).1 (Nat.zero_le _)
    refine .inr ⟨rfl, ?_⟩
    have q1 := getD_len (i := 1) h3
    have q2 := getD_len (i := 2) h3
    simp only [List.length_append, List.length_drop]
    split <;> omega
theorem come_fuel (e : Ex) (most : Nat) (n : By) (l : List Tok) : (e.come most n l).fuel = e.fuel := by unfold Ex.come; split <;> rfl
theorem inc_more (ok : By → Bool) (F : By → Option By) (most : Nat) (e : Ex) : NoMore (incE ok F most e) e := by
  unfold incE
  split
  · exact .inr ⟨rfl, Nat.le_refl _⟩
  · split
    · exact .inr ⟨rfl, by simp [Ex.go, Ex.note]⟩
    · split
      · exact .inr ⟨rfl, by simp [Ex.go, Ex.note]⟩
      · split
        · exact .inr ⟨rfl, by simp [Ex.go, Ex.note]⟩
        · split
          · exact .inl (by simp [Ex.go, Ex.note, Ex.burn, Ex.ask]; omega)
          · exact .inl (by rw [come_fuel]; simp [Ex.go, Ex.burn, Ex.ask]; omega)
theorem call_more (most : Nat) (e : Ex) (s : By) (m : Mv) : NoMore (callE most e s m) e := by
  unfold callE
  split
  · exact .inr ⟨rfl, Nat.le_refl _⟩
  · split
    · exact .inr ⟨rfl, by simp [Ex.go, Ex.note]⟩
    · exact .inl (by rw [come_fuel]; simp [Ex.go, Ex.burn]; omega)
theorem cmd_more {ok : By → Bool} {F : By → Option By} {most : Nat} {e e' : Ex} {s : By} (h : cmdE ok F most e s = some e') : NoMore e' e := by
  unfold cmdE at h
  split at h
  · cases h; exact def_more e
  · split at h
    · cases h; exact undef_more e
    · split at h
      · cases h; exact ifdef_more e
      · split at h
        · cases h; exact inc_more ok F most e
        · cases hg : getL e.ms s with
          | none => rw [hg] at h; cases h
          | some m => rw [hg] at h; cases h; exact call_more most e s m
theorem step_less {ok : By → Bool} {F : By → Option By} {most : Nat} {e e' : Ex} {b : Bool} (h : stepE ok F most e = some (b, e')) : Less e' e := by
  unfold stepE at h
  split at h
  · cases h
  · rename_i t r hi
    split at h
    · rename_i e2 hc
      cases h
      split at hc
      · rcases cmd_more hc with q | ⟨q1, q2⟩
        · exact .inl q
        · exact .inr ⟨q1, by rw [hi]; simp at q2 ⊢; omega⟩
      · cases hc
    · split at h
      · cases h; exact .inr ⟨rfl, by rw [hi]; simp [Ex.note]⟩
      · cases h; exact .inr ⟨rfl, by rw [hi]; simp⟩
/-- All of them, from a state on. -/
def runE (ok : By → Bool) (F : By → Option By) (most : Nat) (e : Ex) : Ex :=
  match _h : stepE ok F most e with
  | none => e
  | some (false, e') => e'
  | some (true, e') => runE ok F most e'
termination_by (e.fuel, e.inp.length)
decreasing_by
  rcases step_less _h with q | ⟨q1, q2⟩
  · exact Prod.Lex.left _ _ q
  · rw [q1]; exact Prod.Lex.right _ q2
theorem run_none {ok : By → Bool} {F : By → Option By} {most : Nat} {e : Ex} (h : stepE ok F most e = none) : runE ok F most e = e := by
  rw [runE]; split <;> simp_all
theorem run_stop {ok : By → Bool} {F : By → Option By} {most : Nat} {e e' : Ex} (h : stepE ok F most e = some (false, e')) : runE ok F most e = e' := by
  rw [runE]; split <;> simp_all
theorem run_next {ok : By → Bool} {F : By → Option By} {most : Nat} {e e' : Ex} (h : stepE ok F most e = some (true, e')) : runE ok F most e = runE ok F most e' := by
  rw [runE]; split <;> simp_all
/-- Whatever each step keeps, all of them do. -/
theorem run_ind {ok : By → Bool} {F : By → Option By} {most : Nat} (Q : Ex → Ex → Prop) (h0 : ∀ e, stepE ok F most e = none → Q e e) (h1 : ∀ e e', stepE ok F most e = some (false, e') → Q e e')
    (h2 : ∀ e e' r, stepE ok F most e = some (true, e') → Q e' r → Q e r) (e : Ex) : Q e (runE ok F most e) := by
  induction e using runE.induct ok F most with
  | case1 e h => rw [run_none h]; exact h0 _ h
  | case2 e e' h => rw [run_stop h]; exact h1 _ _ h
  | case3 e e' h ih => rw [run_next h]; exact h2 _ _ _ h ih

/-! ### what is to come stays within bounds; how many steps there are -/
theorem come_len {e : Ex} {most B : Nat} {n : By} {l : List Tok} (hm : most ≤ B) (h : e.inp.length ≤ B) : (e.come most n l).inp.length ≤ B := by
  unfold Ex.come
  split
  · exact h
  · simp; omega
theorem go_len {e : Ex} {B p : Nat} (h : e.inp.length ≤ B) : (e.go p).inp.length ≤ B := by simp [Ex.go]; omega
theorem cmd_len {ok : By → Bool} {F : By → Option By} {most B : Nat} {e e' : Ex} {s : By} (h : cmdE ok F most e s = some e') (hm : most ≤ B) (hb : e.inp.length ≤ B) : e'.inp.length ≤ B := by
  unfold cmdE at h
  split at h
  · cases h
    rcases def_more e with q | ⟨_, q⟩
    · unfold defE at q; split at q
      · simp [Ex.note] at q
      · split at q
        · simp [Ex.note] at q
        · split at q <;> simp [Ex.go, Ex.note] at q
    · omega
  · split at h
    · cases h
      rcases undef_more e with q | ⟨_, q⟩
      · unfold undefE at q; split at q <;> simp [Ex.go, Ex.note] at q
      · omega
    · split at h
      · cases h
        rcases ifdef_more e with q | ⟨_, q⟩
        · unfold ifdefE at q; split at q <;> simp [Ex.note] at q
        · omega
      · split at h
        · cases h
          unfold incE
          split
          · exact hb
          · split
            · exact go_len hb
            · split
              · exact go_len hb
              · split
                · exact go_len hb
                · split
                  · exact go_len hb
                  · exact come_len hm (go_len hb)
        · cases hg : getL e.ms s with
          | none => rw [hg] at h; cases h
          | some m =>
            rw [hg] at h; cases h
            unfold callE
            split
            · exact hb
            · split
              · exact go_len hb
              · exact come_len hm (go_len hb)
theorem step_len {ok : By → Bool} {F : By → Option By} {most B : Nat} {e e' : Ex} {b : Bool} (h : stepE ok F most e = some (b, e')) (hm : most ≤ B) (hb : e.inp.length ≤ B) : e'.inp.length ≤ B := by
  unfold stepE at h
  split at h
  · cases h
  · rename_i t r hi
    rw [hi] at hb
    simp at hb
    split at h
    · rename_i e2 hc
      cases h
      split at hc
      · exact cmd_len hc hm (by show r.length ≤ B; omega)
      · cases hc
    · split at h
      · cases h; show r.length ≤ B; omega
      · cases h; show r.length ≤ B; omega
/-- How many steps there are at most. -/
def mu (B : Nat) (e : Ex) : Nat := e.fuel * (B + 1) + e.inp.length
theorem mu_less {B : Nat} {e e' : Ex} (h : Less e' e) (hb : e'.inp.length ≤ B) : mu B e' < mu B e := by
  unfold mu
  rcases h with q | ⟨q1, q2⟩
  · have : (e'.fuel + 1) * (B + 1) ≤ e.fuel * (B + 1) := Nat.mul_le_mul_right _ q
    rw [Nat.add_mul] at this
    omega
  · rw [q1]; omega

/-! ### files that were not asked for -/
theorem ask_has (e : Ex) (n : By) : n ∈ (e.ask n).reads := by
  unfold Ex.ask
  simp only
  split
  · assumption
  · simp
theorem come_reads (e : Ex) (most : Nat) (n : By) (l : List Tok) : (e.come most n l).reads = e.reads := by unfold Ex.come; split <;> rfl
theorem inc_files {ok : By → Bool} {F G : By → Option By} {most : Nat} {e : Ex} (h : ∀ n ∈ (incE ok F most e).reads, F n = G n) : incE ok G most e = incE ok F most e := by
  unfold incE at h ⊢
  split
  · rfl
  · split
    · rfl
    · split
      · rfl
      · split
        · rfl
        · rename_i x s p ha h1 h2 h3
          simp only [ha, if_neg h1, if_neg h2, if_neg h3] at h
          have hs : F s = G s := by
            cases hF : F s with
            | none => rw [← hF]; simp only [hF] at h; rw [hF]; rw [← h s (ask_has _ _), hF]
            | some t => simp only [hF] at h; rw [← hF]; exact h s (by rw [come_reads]; exact ask_has _ _)
          rw [hs]
theorem cmd_files {ok : By → Bool} {F G : By → Option By} {most : Nat} {e : Ex} {s : By} (h : ∀ e', cmdE ok F most e s = some e' → ∀ n ∈ e'.reads, F n = G n) : cmdE ok G most e s = cmdE ok F most e s := by
  unfold cmdE at h ⊢
  split
  · rfl
  · split
    · rfl
    · split
      · rfl
      · split
        · rename_i h1 h2 h3 h4
          rw [inc_files (h _ (by rw [if_neg h1, if_neg h2, if_neg h3, if_pos h4]))]
        · rfl
theorem step_files {ok : By → Bool} {F G : By → Option By} {most : Nat} {e : Ex} (h : ∀ b e', stepE ok F most e = some (b, e') → ∀ n ∈ e'.reads, F n = G n) : stepE ok G most e = stepE ok F most e := by
  unfold stepE at h ⊢
  split
  · rfl
  · rename_i t r hi
    simp only [hi] at h
    by_cases h4 : t.1 = 4
    · simp only [if_pos h4] at h ⊢
      rw [cmd_files (G := G) (F := F) (fun e' he n hn => h true e' (by rw [he]) n hn)]
    · simp only [if_neg h4]
theorem ask_keeps {e : Ex} {n m : By} (h : m ∈ e.reads) : m ∈ (e.ask n).reads := by
  unfold Ex.ask
  simp only
  split
  · exact h
  · simp [h]
/-- What a command's name keeps: a relation that all these moves keep. -/
theorem cmd_keeps {ok : By → Bool} {F : By → Option By} {most : Nat} (K : Ex → Ex → Prop) (k1 : ∀ e k s, K e (e.note k s)) (k2 : ∀ e p, K e (e.go p)) (k3 : ∀ e ms, K e { e with ms := ms }) (k4 : ∀ e l, K e { e with inp := l })
    (k5 : ∀ e, e.fuel ≠ 0 → K e e.burn) (k6 : ∀ e s, K e (e.ask s)) (kt : ∀ a b c, K a b → K b c → K a c) {e e' : Ex} {s : By} (h : cmdE ok F most e s = some e') : K e e' := by
  have kc : ∀ e n l, K e (e.come most n l) := fun e n l => by unfold Ex.come; split; exact k1 _ _ _; exact k4 _ _
  unfold cmdE at h
  split at h
  · cases h
    unfold defE
    split
    · exact k1 _ _ _
    · split
      · exact k1 _ _ _
      · split
        · exact kt _ _ _ (k2 _ _) (k3 _ _)
        · exact kt _ _ _ (k2 _ _) (k1 _ _ _)
  · split at h
    · cases h
      unfold undefE
      split
      · exact k1 _ _ _
      · exact kt _ _ _ (k2 _ _) (k3 _ _)
    · split at h
      · cases h
        unfold ifdefE
        split
        · exact k1 _ _ _
        · exact k4 _ _
      · split at h
        · cases h
          unfold incE
          split
          · exact k1 _ _ _
          · split
            · exact kt _ _ _ (k2 _ _) (k1 _ _ _)
            · split
              · exact kt _ _ _ (k2 _ _) (k1 _ _ _)
              · split
                · exact kt _ _ _ (k2 _ _) (k1 _ _ _)
                · rename_i p _ _ _ hf
                  have hf' : (e.go p).fuel ≠ 0 := hf
                  split
                  · exact kt _ _ _ (kt _ _ _ (kt _ _ _ (k2 _ _) (k5 _ hf')) (k6 _ _)) (k1 _ _ _)
                  · exact kt _ _ _ (kt _ _ _ (kt _ _ _ (k2 _ _) (k5 _ hf')) (k6 _ _)) (kc _ _ _)
        · cases hg : getL e.ms s with
          | none => rw [hg] at h; cases h
          | some m =>
            rw [hg] at h; cases h
            unfold callE
            split
            · exact k1 _ _ _
            · rename_i x p _
              split
              · exact kt _ _ _ (k2 _ _) (k1 _ _ _)
              · rename_i hf
                have hf' : (e.go p).fuel ≠ 0 := hf
                exact kt _ _ _ (kt _ _ _ (k2 _ _) (k5 _ hf')) (kc _ _ _)
theorem step_keeps {ok : By → Bool} {F : By → Option By} {most : Nat} (K : Ex → Ex → Prop) (k1 : ∀ e k s, K e (e.note k s)) (k2 : ∀ e p, K e (e.go p)) (k3 : ∀ e ms, K e { e with ms := ms }) (k4 : ∀ e l, K e { e with inp := l })
    (k5 : ∀ e, e.fuel ≠ 0 → K e e.burn) (k6 : ∀ e s, K e (e.ask s)) (k7 : ∀ e t, e.out.length < most → K e { e with out := e.out ++ [t] }) (kt : ∀ a b c, K a b → K b c → K a c) {e e' : Ex} {b : Bool} (h : stepE ok F most e = some (b, e')) : K e e' := by
  unfold stepE at h
  split at h
  · cases h
  · rename_i t r hi
    split at h
    · rename_i e2 hc
      cases h
      split at hc
      · exact kt _ _ _ (k4 e r) (cmd_keeps K k1 k2 k3 k4 k5 k6 kt hc)
      · cases hc
    · split at h
      · cases h; exact kt _ _ _ (k4 e r) (k1 _ _ _)
      · cases h; exact kt _ _ _ (k4 e r) (k7 { e with inp := r } t (by show e.out.length < most; omega))
theorem step_reads {ok : By → Bool} {F : By → Option By} {most : Nat} {e e' : Ex} {b : Bool} (h : stepE ok F most e = some (b, e')) : ∀ n ∈ e.reads, n ∈ e'.reads :=
  step_keeps (fun a b => ∀ n ∈ a.reads, n ∈ b.reads) (fun _ _ _ _ h => h) (fun _ _ _ h => h) (fun _ _ _ h => h) (fun _ _ _ h => h) (fun _ _ _ h => h) (fun _ _ _ h => ask_keeps h) (fun _ _ _ _ h => h) (fun _ _ _ h k n hn => k n (h n hn)) h
theorem run_reads (ok : By → Bool) (F : By → Option By) (most : Nat) (e : Ex) : ∀ n ∈ e.reads, n ∈ (runE ok F most e).reads :=
  run_ind (fun a b => ∀ n ∈ a.reads, n ∈ b.reads) (fun _ _ _ h => h) (fun _ _ h => step_reads h) (fun _ _ _ h k n hn => k n (step_reads h n hn)) e
/-- FILES THAT WERE NOT ASKED FOR MAKE NO DIFFERENCE. -/
theorem run_files {ok : By → Bool} {F G : By → Option By} {most : Nat} (e : Ex) (h : ∀ n ∈ (runE ok F most e).reads, F n = G n) : runE ok G most e = runE ok F most e := by
  refine run_ind (F := F) (fun e r => (∀ n ∈ r.reads, F n = G n) → runE ok G most e = r) ?_ ?_ ?_ e h
  · intro e he hr
    exact run_none (by rw [step_files (F := F) (G := G) (fun b e' h' => by rw [he] at h'; cases h')]; exact he)
  · intro e e' he hr
    exact run_stop (by rw [step_files (F := F) (G := G) (fun b e'' h' => by rw [he] at h'; cases h'; exact hr)]; exact he)
  · intro e e' r he ih hr
    have hk := run_reads ok G most e'
    rw [ih hr] at hk
    rw [run_next (by rw [step_files (F := F) (G := G) (fun b e'' h' n hn => by rw [he] at h'; cases h'; exact hr n (hk n hn))]; exact he)]
    exact ih hr

/-! ### fuel and room -/
theorem step_used {ok : By → Bool} {F : By → Option By} {most : Nat} {e e' : Ex} {b : Bool} (h : stepE ok F most e = some (b, e')) : e'.used + e'.fuel = e.used + e.fuel :=
  step_keeps (fun a b => b.used + b.fuel = a.used + a.fuel) (fun _ _ _ => rfl) (fun _ _ => rfl) (fun _ _ => rfl) (fun _ _ => rfl) (fun e h => by simp [Ex.burn]; omega) (fun _ _ => rfl) (fun _ _ _ => rfl) (fun _ _ _ h k => k.trans h) h
theorem run_used (ok : By → Bool) (F : By → Option By) (most : Nat) (e : Ex) : (runE ok F most e).used + (runE ok F most e).fuel = e.used + e.fuel :=
  run_ind (fun a b => b.used + b.fuel = a.used + a.fuel) (fun _ _ => rfl) (fun _ _ h => step_used h) (fun _ _ _ h k => k.trans (step_used h)) e
theorem step_out {ok : By → Bool} {F : By → Option By} {most : Nat} {e e' : Ex} {b : Bool} (h : stepE ok F most e = some (b, e')) : e.out.length ≤ most → e'.out.length ≤ most :=
  step_keeps (fun a b => a.out.length ≤ most → b.out.length ≤ most) (fun _ _ _ h => h) (fun _ _ h => h) (fun _ _ h => h) (fun _ _ h => h) (fun _ _ h => h) (fun _ _ h => h) (fun _ _ h _ => by simp; omega) (fun _ _ _ h k q => k (h q)) h
theorem run_out (ok : By → Bool) (F : By → Option By) (most : Nat) (e : Ex) : e.out.length ≤ most → (runE ok F most e).out.length ≤ most :=
  run_ind (fun a b => a.out.length ≤ most → b.out.length ≤ most) (fun _ _ h => h) (fun _ _ h => step_out h) (fun _ _ _ h k q => k (step_out h q)) e
theorem step_notes {ok : By → Bool} {F : By → Option By} {most : Nat} {e e' : Ex} {b : Bool} (h : stepE ok F most e = some (b, e')) : e.notes.length ≤ e'.notes.length :=
  step_keeps (fun a b => a.notes.length ≤ b.notes.length) (fun _ _ _ => by simp [Ex.note]) (fun _ _ => Nat.le_refl _) (fun _ _ => Nat.le_refl _) (fun _ _ => Nat.le_refl _) (fun _ _ => Nat.le_refl _) (fun _ _ => Nat.le_refl _) (fun _ _ _ => Nat.le_refl _) (fun _ _ _ h k => Nat.le_trans h k) h
theorem run_notes (ok : By → Bool) (F : By → Option By) (most : Nat) (e : Ex) : e.notes.length ≤ (runE ok F most e).notes.length :=
  run_ind (fun a b => a.notes.length ≤ b.notes.length) (fun _ _ => Nat.le_refl _) (fun _ _ h => step_notes h) (fun _ _ _ h k => Nat.le_trans (step_notes h) k) e

/-! ### more fuel, more room -/
def Ex.up (e : Ex) (d : Nat) : Ex := { e with fuel := e.fuel + d }
theorem come_up {e : Ex} {most m d : Nat} {n : By} {l : List Tok} (h : (e.come most n l).notes.length = e.notes.length) : (e.up d).come (most + m) n l = (e.come most n l).up d := by
  unfold Ex.come at h ⊢
  split at h
  · simp [Ex.note] at h
  · rename_i hc
    rw [if_neg hc, if_neg (by show ¬ most + m < l.length + e.inp.length; omega)]
    rfl
theorem go_up (e : Ex) (p d : Nat) : (e.up d).go p = (e.go p).up d := rfl
theorem burn_up {e : Ex} (d : Nat) (h : e.fuel ≠ 0) : (e.up d).burn = e.burn.up d := by
  unfold Ex.burn Ex.up
  simp only [Ex.mk.injEq, true_and, and_true]
  omega
theorem ask_up (e : Ex) (s : By) (d : Nat) : (e.up d).ask s = (e.ask s).up d := rfl
theorem inc_up {ok : By → Bool} {F : By → Option By} {most m d : Nat} {e : Ex} (h : (incE ok F most e).notes.length = e.notes.length) : incE ok F (most + m) (e.up d) = (incE ok F most e).up d := by
  unfold incE at h ⊢
  rw [show (e.up d).inp = e.inp from rfl]
  split
  · rename_i ha; simp only [ha] at h; simp [Ex.note] at h
  · rename_i x s p ha
    simp only [ha] at h
    split
    · rename_i h1; simp [h1, Ex.note, Ex.go] at h
    · rename_i h1
      rw [if_neg h1] at h
      rw [show (e.up d).reads = e.reads from rfl]
      split
      · rename_i h2; rw [if_pos h2] at h; simp [Ex.note, Ex.go] at h
      · rename_i h2
        rw [if_neg h2] at h
        by_cases h3 : e.fuel = 0
        · rw [if_pos h3] at h; simp [Ex.note, Ex.go] at h
        · rw [if_neg h3] at h ⊢
          rw [if_neg (by show ¬ e.fuel + d = 0; omega)]
          rw [go_up, burn_up d (show (e.go p).fuel ≠ 0 from h3), ask_up]
          split
          · rename_i hF; simp only [hF] at h; simp [Ex.note, Ex.ask, Ex.burn, Ex.go] at h
          · rename_i t hF
            simp only [hF] at h
            exact come_up h
theorem call_up {most m d : Nat} {e : Ex} {s : By} {k : Mv} (h : (callE most e s k).notes.length = e.notes.length) : callE (most + m) (e.up d) s k = (callE most e s k).up d := by
  unfold callE at h ⊢
  rw [show (e.up d).inp = e.inp from rfl]
  split
  · rename_i ha; simp only [ha] at h; simp [Ex.note] at h
  · rename_i x p ha
    simp only [ha] at h
    by_cases h3 : e.fuel = 0
    · rw [if_pos h3] at h; simp [Ex.note, Ex.go] at h
    · rw [if_neg h3] at h ⊢
      rw [if_neg (by show ¬ e.fuel + d = 0; omega), go_up, burn_up d (show (e.go p).fuel ≠ 0 from h3)]
      exact come_up h
theorem def_up (e : Ex) (d : Nat) : defE (e.up d) = (defE e).up d := by
  unfold defE
  rw [show (e.up d).inp = e.inp from rfl, show (e.up d).ms = e.ms from rfl]
  split
  · rfl
  · split
    · rfl
    · split <;> rfl
theorem undef_up (e : Ex) (d : Nat) : undefE (e.up d) = (undefE e).up d := by
  unfold undefE
  rw [show (e.up d).inp = e.inp from rfl]
  split <;> rfl
theorem ifdef_up (e : Ex) (d : Nat) : ifdefE (e.up d) = (ifdefE e).up d := by
  unfold ifdefE
  rw [show (e.up d).inp = e.inp from rfl, show (e.up d).ms = e.ms from rfl]
  split <;> rfl
theorem cmd_up {ok : By → Bool} {F : By → Option By} {most m d : Nat} {e : Ex} {s : By} (h : ∀ e', cmdE ok F most e s = some e' → e'.notes.length = e.notes.length) : cmdE ok F (most + m) (e.up d) s = (cmdE ok F most e s).map (·.up d) := by
  unfold cmdE at h ⊢
  split
  · rw [def_up]; rfl
  · split
    · rw [undef_up]; rfl
    · split
      · rw [ifdef_up]; rfl
      · split
        · rename_i h1 h2 h3 h4
          rw [inc_up (h _ (by rw [if_neg h1, if_neg h2, if_neg h3, if_pos h4]))]; rfl
        · rename_i h1 h2 h3 h4
          rw [show (e.up d).ms = e.ms from rfl]
          cases hg : getL e.ms s with
          | none => rfl
          | some k =>
            have := h (callE most e s k) (by rw [if_neg h1, if_neg h2, if_neg h3, if_neg h4, hg]; rfl)
            simp only [Option.map_some]
            rw [call_up this]
theorem step_up {ok : By → Bool} {F : By → Option By} {most m d : Nat} {e : Ex} (h : ∀ b e', stepE ok F most e = some (b, e') → e'.notes.length = e.notes.length) : stepE ok F (most + m) (e.up d) = (stepE ok F most e).map fun x => (x.1, x.2.up d) := by
  unfold stepE at h ⊢
  rw [show (e.up d).inp = e.inp from rfl]
  split
  · rfl
  · rename_i t r hi
    simp only [hi] at h
    have hc : (if t.1 = 4 then cmdE ok F (most + m) ({ e.up d with inp := r }) t.2 else none) = (if t.1 = 4 then cmdE ok F most { e with inp := r } t.2 else none).map (·.up d) := by
      by_cases h4 : t.1 = 4
      · simp only [if_pos h4] at h ⊢
        exact cmd_up (e := { e with inp := r }) (fun e' he => h true e' (by rw [he]))
      · simp only [if_neg h4]; rfl
    rw [hc]
    cases hq : (if t.1 = 4 then cmdE ok F most { e with inp := r } t.2 else none) with
    | some e2 => rfl
    | none =>
      rw [hq] at h
      simp only [Option.map_none]
      by_cases ho : most ≤ e.out.length
      · have := h false (Ex.note { e with inp := r } 3 []) (by simp only [if_pos ho])
        simp [Ex.note] at this
      · rw [if_neg ho, if_neg (by show ¬ most + m ≤ e.out.length; omega)]
        rfl
/-- WHERE NOTHING IS NOTED, MORE FUEL AND MORE ROOM MAKE NO DIFFERENCE. -/
theorem run_up {ok : By → Bool} {F : By → Option By} {most : Nat} (m d : Nat) (e : Ex) (h : (runE ok F most e).notes.length = e.notes.length) : runE ok F (most + m) (e.up d) = (runE ok F most e).up d := by
  refine (run_ind (F := F) (fun e r => e.notes.length ≤ r.notes.length ∧ (r.notes.length = e.notes.length → runE ok F (most + m) (e.up d) = r.up d)) ?_ ?_ ?_ e).2 h
  · intro e he
    exact ⟨Nat.le_refl _, fun _ => run_none (by rw [step_up (fun b e' h' => by rw [he] at h'; cases h'), he]; rfl)⟩
  · intro e e' he
    exact ⟨step_notes he, fun hr => run_stop (by rw [step_up (fun b e'' h' => by rw [he] at h'; cases h'; exact hr), he]; rfl)⟩
  · intro e e' r he ⟨k2, ih⟩
    have k1 := step_notes he
    refine ⟨Nat.le_trans k1 k2, fun hr => ?_⟩
    rw [run_next (by rw [step_up (fun b e'' h' => by rw [he] at h'; cases h'; omega), he]; rfl)]
    exact ih (by omega)

/-! ### tokens that are no commands -/
theorem step_put {ok : By → Bool} {F : By → Option By} {most : Nat} {e : Ex} {t : Tok} {r : List Tok} (hi : e.inp = t :: r) (h4 : t.1 ≠ 4) : stepE ok F most e = if most ≤ e.out.length then some (false, Ex.note { e with inp := r } 3 []) else some (true, { e with inp := r, out := e.out ++ [t] }) := by
  unfold stepE
  rw [hi]
  simp only [if_neg h4]
theorem run_plain (ok : By → Bool) (F : By → Option By) (most : Nat) : ∀ (l : List Tok) (e : Ex), e.inp = l → (∀ t ∈ l, t.1 ≠ 4) → e.out.length + l.length ≤ most → runE ok F most e = { e with inp := [], out := e.out ++ l }
  | [], e, hi, _, _ => by
    rw [run_none (by unfold stepE; rw [hi])]
    cases e; simp at hi; subst hi; simp
  | t :: r, e, hi, h4, hl => by
    simp at hl
    rw [run_next (by rw [step_put hi (h4 t (by simp)), if_neg (by omega)])]
    rw [run_plain ok F most r _ rfl (fun x hx => h4 x (by simp [hx])) (by simp; omega)]
    simp
theorem run_full (ok : By → Bool) (F : By → Option By) (most : Nat) : ∀ (l : List Tok) (e : Ex), e.inp = l → (∀ t ∈ l, t.1 ≠ 4) → e.out.length ≤ most → most < e.out.length + l.length → (runE ok F most e).out.length = most ∧ (runE ok F most e).notes = e.notes ++ [(3, [])]
  | [], e, _, _, h1, h2 => by simp at h2; omega
  | t :: r, e, hi, h4, h1, h2 => by
    simp at h2
    by_cases hm : most ≤ e.out.length
    · rw [run_stop (by rw [step_put hi (h4 t (by simp)), if_pos hm])]
      exact ⟨by show e.out.length = most; omega, rfl⟩
    · rw [run_next (by rw [step_put hi (h4 t (by simp)), if_neg hm])]
      exact run_full ok F most r _ rfl (fun x hx => h4 x (by simp [hx])) (by simp; omega) (by simp; omega)

/-! ### no includes -/
def NoInc (e : Ex) : Prop := (∀ t ∈ e.inp, t ≠ (4, sInc)) ∧ ∀ m ∈ e.ms, ∀ t ∈ m.2.2, t ≠ (4, sInc)
/-- The same, with other files asked for, and more fuel used. -/
def Ex.sh (e : Ex) (R : List By) (k : Nat) : Ex := { e with reads := R, used := e.used + k }
theorem come_sh (e : Ex) (most : Nat) (n : By) (l : List Tok) (R : List By) (k : Nat) : (e.sh R k).come most n l = (e.come most n l).sh R k := by
  unfold Ex.come
  rw [show (e.sh R k).inp = e.inp from rfl]
  split <;> rfl
theorem burn_sh (e : Ex) (R : List By) (k : Nat) : (e.sh R k).burn = e.burn.sh R k := by
  unfold Ex.burn Ex.sh
  simp only [Ex.mk.injEq, true_and]
  omega
theorem cmd_sh {ok : By → Bool} {F : By → Option By} {most : Nat} {e : Ex} {s : By} (R : List By) (k : Nat) (hs : s ≠ sInc) : cmdE ok F most (e.sh R k) s = (cmdE ok F most e s).map (·.sh R k) := by
  unfold cmdE
  split
  · unfold defE
    rw [show (e.sh R k).inp = e.inp from rfl, show (e.sh R k).ms = e.ms from rfl]
    split
    · rfl
    · split
      · rfl
      · split <;> rfl
  · split
    · unfold undefE
      rw [show (e.sh R k).inp = e.inp from rfl]
      split <;> rfl
    · split
      · unfold ifdefE
        rw [show (e.sh R k).inp = e.inp from rfl, show (e.sh R k).ms = e.ms from rfl]
        split <;> rfl
      · rw [show (e.sh R k).ms = e.ms from rfl]
        cases hg : getL e.ms s with
        | none => rfl
        | some m =>
          simp only [Option.map_some]
          unfold callE
          rw [show (e.sh R k).inp = e.inp from rfl]
          split
          · rfl
          · rw [show (e.sh R k).fuel = e.fuel from rfl]
            split
            · rfl
            · rw [show (e.sh R k).go _ = (e.go _).sh R k from rfl, burn_sh, come_sh]
theorem step_sh {ok : By → Bool} {F : By → Option By} {most : Nat} {e : Ex} (R : List By) (k : Nat) (h : NoInc e) : stepE ok F most (e.sh R k) = (stepE ok F most e).map fun x => (x.1, x.2.sh R k) := by
  unfold stepE
  rw [show (e.sh R k).inp = e.inp from rfl]
  split
  · rfl
  · rename_i t r hi
    have hc : (if t.1 = 4 then cmdE ok F most ({ e.sh R k with inp := r }) t.2 else none) = (if t.1 = 4 then cmdE ok F most { e with inp := r } t.2 else none).map (·.sh R k) := by
      by_cases h4 : t.1 = 4
      · simp only [if_pos h4]
        exact cmd_sh (e := { e with inp := r }) R k (fun e2 => h.1 t (by rw [hi]; simp) (Prod.ext h4 e2))
      · simp only [if_neg h4]; rfl
    rw [hc]
    cases (if t.1 = 4 then cmdE ok F most { e with inp := r } t.2 else none) with
    | some e2 => rfl
    | none =>
      simp only [Option.map_none]
      rw [show (e.sh R k).out = e.out from rfl]
      split <;> rfl
theorem args_mem {l : List Tok} : ∀ {n a : Nat} {x : List (List Tok)} {p : Nat}, argsG l n a = some (x, p) → ∀ y ∈ x, ∀ t ∈ y, t ∈ l
  | 0, a, x, p, h => by simp [argsG] at h; obtain ⟨rfl, rfl⟩ := h; intro y hy; cases hy
  | n + 1, a, x, p, h => by
    unfold argsG at h
    cases hp : grpN l (skipN l a) with
    | none => rw [hp] at h; cases h
    | some q =>
      rw [hp] at h
      simp only at h
      cases hx : argsG l n q with
      | none => rw [hx] at h; cases h
      | some y =>
        obtain ⟨y, p'⟩ := y
        rw [hx] at h
        simp at h
        obtain ⟨rfl, rfl⟩ := h
        intro z hz t ht
        simp at hz
        rcases hz with rfl | hz
        · exact List.mem_of_mem_drop (List.mem_of_mem_take ht)
        · exact args_mem hx z hz t ht
theorem getD_mem {x : List (List Tok)} {i : Nat} {l : List Tok} (h : ∀ y ∈ x, ∀ t ∈ y, t ∈ l) : ∀ t ∈ x.getD i [], t ∈ l := by
  rw [List.getD_eq_getElem?_getD]
  cases hx : x[i]? with
  | none => simp
  | some y => simpa using h y (List.mem_of_getElem? hx)
theorem fill_mem {b : List Tok} {x : List (List Tok)} {l : List Tok} (h : ∀ y ∈ x, ∀ t ∈ y, t ∈ l) : ∀ t ∈ fillL b x, t ∈ b ∨ t ∈ l := by
  intro t ht
  obtain ⟨u, hu, hut⟩ := List.mem_flatMap.1 ht
  unfold fillT at hut
  split at hut
  · right
    unfold argOf at hut
    split at hut
    · split at hut
      · exact getD_mem h t hut
      · cases hut
    · cases hut
  · simp at hut; subst hut; exact .inl hu
theorem put_mem {ms : List Ml} {f m : Ml} (h : m ∈ putL ms f) : m = f ∨ m ∈ ms := by
  unfold putL at h
  have hd : ∀ g, g ∈ dropL ms f.1 → g ∈ ms := fun g hg => (List.mem_filter.1 hg).1
  rcases List.mem_append.1 h with q | q
  · exact .inr (hd _ ((List.takeWhile_sublist _).mem q))
  · rcases List.mem_cons.1 q with q | q
    · exact .inl q
    · exact .inr (hd _ ((List.dropWhile_sublist _).mem q))
theorem come_no {e : Ex} {most : Nat} {n : By} {l : List Tok} (h : NoInc e) (hl : ∀ t ∈ l, t ≠ (4, sInc)) : NoInc (e.come most n l) := by
  unfold Ex.come
  split
  · exact h
  · exact ⟨fun t ht => (List.mem_append.1 ht).elim (hl t) (h.1 t), h.2⟩
theorem go_no {e : Ex} {p : Nat} (h : NoInc e) : NoInc (e.go p) := ⟨fun t ht => h.1 t (List.mem_of_mem_drop ht), h.2⟩
theorem cmd_no {ok : By → Bool} {F : By → Option By} {most : Nat} {e e' : Ex} {s : By} (hs : s ≠ sInc) (h : NoInc e) (hc : cmdE ok F most e s = some e') : NoInc e' := by
  unfold cmdE at hc
  split at hc
  · cases hc
    unfold defE
    split
    · exact h
    · rename_i x s p ha
      split
      · exact h
      · split
        · refine ⟨(go_no h).1, fun m hm t ht => ?_⟩
          rcases put_mem hm with rfl | hm
          · exact h.1 t (getD_mem (args_mem (argsW_some ha).1) t ht)
          · exact h.2 m hm t ht
        · exact go_no h
  · split at hc
    · cases hc
      unfold undefE
      split
      · exact h
      · exact ⟨(go_no h).1, fun m hm => h.2 m (List.mem_filter.1 hm).1⟩
    · split at hc
      · cases hc
        unfold ifdefE
        split
        · exact h
        · rename_i x s p ha
          refine ⟨fun t ht => ?_, h.2⟩
          have hx := args_mem (argsW_some ha).1
          rcases List.mem_append.1 ht with q | q
          · split at q
            · exact h.1 t (getD_mem hx t q)
            · exact h.1 t (getD_mem hx t q)
          · exact h.1 t (List.mem_of_mem_drop q)
      · skip
        cases hg : getL e.ms s with
        | none => rw [hg] at hc; cases hc
        | some m =>
          rw [hg] at hc; cases hc
          unfold callE
          split
          · exact h
          · rename_i x p ha
            split
            · exact go_no h
            · refine come_no (go_no h) fun t ht => ?_
              obtain ⟨f, hf, rfl⟩ : ∃ f ∈ e.ms, f.2 = m := by
                unfold getL at hg
                cases hq : e.ms.find? (fun f => f.1 == s) with
                | none => rw [hq] at hg; cases hg
                | some f => rw [hq] at hg; simp at hg; exact ⟨f, List.mem_of_find?_eq_some hq, hg⟩
              exact (fill_mem (args_mem ha) t ht).elim (h.2 f hf t) (h.1 t)
theorem step_no {ok : By → Bool} {F : By → Option By} {most : Nat} {e e' : Ex} {b : Bool} (h : NoInc e) (hc : stepE ok F most e = some (b, e')) : NoInc e' := by
  unfold stepE at hc
  split at hc
  · cases hc
  · rename_i t r hi
    have hr : NoInc { e with inp := r } := ⟨fun x hx => h.1 x (by rw [hi]; simp [show x ∈ r from hx]), h.2⟩
    split at hc
    · rename_i e2 hq
      cases hc
      split at hq
      · rename_i h4
        exact cmd_no (fun e2 => h.1 t (by rw [hi]; simp) (Prod.ext h4 e2)) hr hq
      · cases hq
    · split at hc
      · cases hc; exact hr
      · cases hc; exact hr
/-- WHERE NOTHING IS INCLUDED, WHICH FILES WERE ASKED FOR, AND HOW MUCH FUEL WAS USED, MAKES NO DIFFERENCE. -/
theorem run_sh {ok : By → Bool} {F : By → Option By} {most : Nat} (R : List By) (k : Nat) (e : Ex) (h : NoInc e) : runE ok F most (e.sh R k) = (runE ok F most e).sh R k := by
  refine run_ind (F := F) (fun e r => NoInc e → runE ok F most (e.sh R k) = r.sh R k) ?_ ?_ ?_ e h
  · intro e he h
    exact run_none (by rw [step_sh R k h, he]; rfl)
  · intro e e' he h
    exact run_stop (by rw [step_sh R k h, he]; rfl)
  · intro e e' r he ih h
    rw [run_next (by rw [step_sh R k h, he]; rfl)]
    exact ih (step_no h he)
end Go.Proofs.YtmnbepapgghdaaaGreat
