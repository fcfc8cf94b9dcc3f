/-
  Plain mathematics of disks: sectors, pending writes, what is read, what a crash keeps. No program text in it.
-/
import Derived.WalkKit
namespace Go.Proofs.YtmggpockikcjjaaGreatDoor.Dsk

abbrev Tx := List UInt8
abbrev Wt := Nat × Tx
def lastOf : List Wt → Nat → Option Tx
  | [], _ => none
  | x :: r, i => match lastOf r i with
    | some t => some t
    | none => if x.1 = i then some x.2 else none
theorem lastOf_snoc : ∀ (p : List Wt) (x : Wt) (i : Nat), lastOf (p ++ [x]) i = if x.1 = i then some x.2 else lastOf p i
  | [], x, i => by simp [lastOf]
  | y :: r, x, i => by
    rw [List.cons_append]
    unfold lastOf
    rw [lastOf_snoc r x i]
    by_cases h : x.1 = i
    · simp [h]
    · simp [h]
def doL (b : Nat → Tx) (p : List Wt) (i : Nat) : Tx := (lastOf p i).getD (b i)
theorem doL_nil (b : Nat → Tx) : doL b [] = b := by funext i; rfl
theorem doL_snoc (b : Nat → Tx) (p : List Wt) (x : Wt) (i : Nat) : doL b (p ++ [x]) i = if x.1 = i then x.2 else doL b p i := by
  unfold doL
  rw [lastOf_snoc]
  by_cases h : x.1 = i <;> simp [h]
def keptL : List Wt → List Bool → List Wt
  | [], _ => []
  | _ :: _, [] => []
  | x :: r, k :: ks => if k then x :: keptL r ks else keptL r ks
theorem kept_none (p : List Wt) : keptL p [] = [] := by cases p <;> rfl
theorem kept_step : ∀ (p : List Wt) (ks : List Bool) (k : Nat) (x : Wt), p[k]? = some x → keptL (p.take (k + 1)) ks = if ks[k]? = some true then keptL (p.take k) ks ++ [x] else keptL (p.take k) ks
  | [], _, _, _, h => by simp at h
  | y :: r, [], k, x, h => by simp [kept_none]
  | y :: r, b :: ks, 0, x, h => by
    simp at h; subst h
    cases b <;> simp [keptL]
  | y :: r, b :: ks, k + 1, x, h => by
    have ih := kept_step r ks k x (by simpa using h)
    simp only [List.take_succ_cons, keptL, List.getElem?_cons_succ]
    rw [ih]
    by_cases h1 : ks[k]? = some true
    · cases b <;> simp [h1]
    · cases b <;> simp [h1]
theorem kept_mem : ∀ (p : List Wt) (ks : List Bool), ∀ x ∈ keptL p ks, x ∈ p
  | [], _, x, h => by simp [keptL] at h
  | y :: r, [], x, h => by simp [keptL] at h
  | y :: r, b :: ks, x, h => by
    unfold keptL at h
    cases b
    · simp at h; exact List.mem_cons_of_mem _ (kept_mem r ks x h)
    · simp at h
      rcases h with rfl | h
      · exact List.mem_cons_self
      · exact List.mem_cons_of_mem _ (kept_mem r ks x h)
theorem kept_len : ∀ (p : List Wt) (ks : List Bool), (keptL p ks).length ≤ p.length
  | [], _ => by simp [keptL]
  | _ :: _, [] => by simp [keptL]
  | y :: r, b :: ks => by
    have := kept_len r ks
    unfold keptL
    cases b <;> simp <;> omega

/-- A disk, as the document tells it: how many sectors; the limit, if there is one; what the sectors hold; what is pending; a bound on how many writes there ever were. -/
structure DS where
  n : Nat
  lim : Option Nat
  base : Nat → Tx
  pend : List Wt
  cnt : Nat

def newS (n : Nat) : DS := ⟨n, none, fun _ => [], [], 0⟩
def hasB (d : DS) (i : Int) : Bool := decide (0 ≤ i) && decide (i < d.n)
def readS (d : DS) (i : Int) : Tx := if hasB d i then doL d.base d.pend i.toNat else []
def readE (d : DS) (i : Int) : Int := if hasB d i then 0 else 1
def liveB (d : DS) : Bool := match d.lim with | some 0 => false | _ => true
def usedS (d : DS) : DS := { d with lim := d.lim.map (· - 1) }
def writeE (d : DS) (i : Int) (s : Tx) : Int := if hasB d i then if s.length ≤ 64 then if liveB d then 0 else 8 else 3 else 1
def pushS (d : DS) (i : Nat) (s : Tx) : DS := { d with pend := d.pend ++ [(i, s)], cnt := d.cnt + 1 }
def writeS (d : DS) (i : Int) (s : Tx) : DS := if hasB d i then if s.length ≤ 64 then if liveB d then pushS (usedS d) i.toNat s else d else d else d
def settleS (d : DS) (p : List Wt) : DS := { d with base := doL d.base p, pend := [] }
def syncE (d : DS) : Int := if liveB d then 0 else 8
def syncS (d : DS) : DS := if liveB d then settleS (usedS d) d.pend else d
def limitS (d : DS) (n : Int) : DS := { d with lim := some n.toNat }
def crashS (d : DS) (ks : List Bool) : DS := { settleS d (keptL d.pend ks) with lim := none }

/-- What is always so. -/
structure Ok (d : DS) : Prop where
  n : d.n ≤ 4096
  pend : ∀ x ∈ d.pend, x.1 < d.n ∧ x.2.length ≤ 64
  base : ∀ i, (d.base i).length ≤ 64
  len : d.pend.length ≤ d.cnt
  cnt : d.cnt ≤ 1000
theorem last_mem : ∀ (p : List Wt) (i : Nat) (t : Tx), lastOf p i = some t → (i, t) ∈ p
  | [], _, _, h => by simp [lastOf] at h
  | x :: r, i, t, h => by
    unfold lastOf at h
    cases hr : lastOf r i with
    | some u => rw [hr] at h; simp at h; subst h; exact List.mem_cons_of_mem _ (last_mem r i u hr)
    | none =>
      rw [hr] at h
      simp at h
      obtain ⟨rfl, rfl⟩ := h
      exact List.mem_cons_self
theorem doL_len {b : Nat → Tx} {p : List Wt} (hb : ∀ i, (b i).length ≤ 64) (hp : ∀ x ∈ p, x.2.length ≤ 64) (i : Nat) : (doL b p i).length ≤ 64 := by
  unfold doL
  cases h : lastOf p i with
  | some t => exact hp _ (last_mem p i t h)
  | none => exact hb i
theorem Ok.new (n : Nat) (h : n ≤ 4096) : Ok (newS n) := ⟨h, by simp [newS], by simp [newS], by simp [newS], by simp [newS]⟩
theorem Ok.used {d : DS} (h : Ok d) : Ok (usedS d) := ⟨h.n, h.pend, h.base, h.len, h.cnt⟩
theorem Ok.settle {d : DS} (h : Ok d) {p : List Wt} (hp : ∀ x ∈ p, x ∈ d.pend) : Ok (settleS d p) :=
  ⟨h.n, by simp [settleS], fun i => doL_len h.base (fun x hx => (h.pend x (hp x hx)).2) i, by simp [settleS], h.cnt⟩
theorem Ok.lim {d : DS} (h : Ok d) (l : Option Nat) : Ok { d with lim := l } := ⟨h.n, h.pend, h.base, h.len, h.cnt⟩
theorem Ok.crash {d : DS} (h : Ok d) (ks : List Bool) : Ok (crashS d ks) := (h.settle (kept_mem _ _)).lim none
theorem Ok.sync {d : DS} (h : Ok d) : Ok (syncS d) := by
  unfold syncS
  split
  · exact h.used.settle (fun x hx => hx)
  · exact h
theorem hasB_is {d : DS} {i : Int} (h : hasB d i = true) : 0 ≤ i ∧ i.toNat < d.n := by
  unfold hasB at h; simp at h; omega
theorem Ok.push {d : DS} (h : Ok d) {i : Nat} {s : Tx} (hi : i < d.n) (hs : s.length ≤ 64) (hc : d.cnt < 1000) : Ok (pushS d i s) :=
  ⟨h.n, fun x hx => by simp [pushS] at hx; rcases hx with hx | rfl; exact h.pend x hx; exact ⟨hi, hs⟩, h.base, by have := h.len; simp [pushS]; omega, by simp [pushS]; omega⟩
theorem Ok.write {d : DS} (h : Ok d) (i : Int) (s : Tx) (hc : d.cnt < 1000) : Ok (writeS d i s) := by
  unfold writeS
  split
  · rename_i h1
    split
    · rename_i h2
      split
      · exact h.used.push (hasB_is h1).2 h2 hc
      · exact h
    · exact h
  · exact h
theorem Ok.read {d : DS} (h : Ok d) (i : Int) : (readS d i).length ≤ 64 := by
  unfold readS
  split
  · exact doL_len h.base (fun x hx => (h.pend x hx).2) _
  · simp
end Go.Proofs.YtmggpockikcjjaaGreatDoor.Dsk
