/-
  Contracts of the document's own answers of layer 7: Group, Word, Squeezed, Flat, Named.
-/
import Derived.Test.YtjneeikkakekjaaDoorMP
import Derived.Test.YtjneeikkakekjaaDoorJ
namespace Go.Proofs.YtjneeikkakekjaaDoor
open Go.RowKit

theorem str_app {a b r : By} (h : a ++ b = r) : Value.string (({ data := a.toArray } : ByteArray) ++ { data := b.toArray }) = Value.string { data := r.toArray } := by
  subst h; congr 1
theorem one_byte (t : ByteArray) (k : Nat) (h : k < t.size) : t.extract k (k + 1) = ⟨([t[k]] : By).toArray⟩ := by
  apply str_of
  rw [ext_list, take_step t k h, List.drop_append, List.length_take, size_list]
  rw [List.drop_of_length_le (by rw [List.length_take]; omega), show k - min k t.size = 0 by omega]
  rfl
theorem ret_two {a b c d : Value} (h1 : a = c) (h2 : b = d) : Ending.returned (.tuple #[a, b]) = .returned (.tuple #[c, d]) := by rw [h1, h2]
theorem int_eq {a b : Int} (h : a = b) : Value.int .i64 a = .int .i64 b := by rw [h]
/-- Place and error, as the program answers them. -/
def GrpPost (w : World) (p : Int × Int) (e : Ending) (w' : World) : Prop := e = .returned (.tuple #[.int .i64 p.1, .int .i64 p.2]) ∧ w = w'
theorem grpE_in {l : List Tok} {a : Nat} (h : a ≤ l.length) : grpE l a = grpP (grpN l a) := by
  unfold grpE
  rw [if_neg (by omega)]
  rfl
theorem grpE_out {l : List Tok} {a : Int} (h : a < 0 ∨ (l.length : Int) < a) : grpE l a = (0, 1) := by
  unfold grpE; rw [if_pos h]
set_option maxRecDepth 100000 in
set_option maxHeartbeats 4000000 in
theorem rgroup_any (A : Option Addr) (c : Nat) (ts : List Tok) (x : Int) (w : World) (hr : Rd w A ts) (hl : ts.length ≤ 200000) :
    Calls Tryd.prog 11 #[.slice A ts.length c, .int .i64 x] w (GrpPost w (grpE ts x)) := by
  rcases (show x < 0 ∨ (ts.length : Int) < x ∨ x = (ts.length : Int) ∨ ∃ a : Nat, x = (a : Int) ∧ a < ts.length by
    by_cases h : x < 0
    · exact .inl h
    · by_cases h2 : (ts.length : Int) < x
      · exact .inr (.inl h2)
      · by_cases h3 : x = (ts.length : Int)
        · exact .inr (.inr (.inl h3))
        · exact .inr (.inr (.inr ⟨x.toNat, by omega, by omega⟩))) with h | h | h | ⟨a, rfl, ha⟩
  · rw [grpE_out (.inl h)]
    go_enter Tryd.func11, Tryd.ntmps11
    go_wp2
    go_ret2
    exact ⟨rfl, rfl⟩
  · rw [grpE_out (.inr h)]
    have h0 : ¬ x < 0 := by omega
    go_enter Tryd.func11, Tryd.ntmps11
    go_wp2
    go_ret2
    exact ⟨rfl, rfl⟩
  · subst h
    rw [grpE_in (Nat.le_refl _), grp_out (Nat.le_refl _), show grpP none = (0, 10) from rfl]
    have h0 : ¬ (ts.length : Int) < 0 := by omega
    have q : ((ts.length : Int) == (ts.length : Int)) = true := by simp
    go_enter Tryd.func11, Tryd.ntmps11
    go_wp2
    go_ret2
    exact ⟨rfl, rfl⟩
  · rw [grpE_in (by omega)]
    obtain ⟨b, o, rfl, hcell⟩ := hr (by omega)
    obtain ⟨f, hf⟩ : ∃ f, ts[a]? = some f := ⟨_, List.getElem?_eq_getElem ha⟩
    obtain ⟨c1, c2⟩ := hcell a f hf
    have HC := Lib.hid hcell
    clear hcell hr
    have h0 : ¬ (a : Int) < 0 := by omega
    have h1 : ¬ (ts.length : Int) < (a : Int) := by omega
    have i1 : (a : Int) < (ts.length : Int) := by omega
    have q : ((a : Int) == (ts.length : Int)) = false := by rw [beq_eq_false_iff_ne]; omega
    by_cases h5 : f.1 = 5
    · have hG := grp_begin hf h5
      obtain ⟨G, hGG⟩ : ∃ G, grpN ts a = G := ⟨_, rfl⟩
      rw [hGG] at hG ⊢
      have HG := Lib.hid hG
      have HF := Lib.hid (And.intro hf h5)
      rw [h5] at c1
      clear hGG hG hf h5 c2
      go_enter Tryd.func11, Tryd.ntmps11
      go_wp2
      go_loop [6, 7] (fun v6 v7 => ∃ d i : Nat, v6 = .int .i64 d ∧ v7 = .int .i64 i ∧ a ≤ i ∧ i ≤ ts.length ∧ d ≤ i ∧ (d = 0 → i = a) ∧ Hid ((endG d (ts.drop i)).map (· + i) = G)) (fun _ v7 => ts.length - (intOf v7).toNat)
      case atStart => exact ⟨0, a, rfl, rfl, Nat.le_refl _, by omega, Nat.zero_le _, fun _ => rfl, HG⟩
      case round =>
        obtain ⟨d, i, rfl, rfl, hai, hi, hdi, hd0, HE⟩ := hrel
        by_cases hlt : i < ts.length
        · obtain ⟨g, hg⟩ : ∃ g, ts[i]? = some g := ⟨_, List.getElem?_eq_getElem hlt⟩
          obtain ⟨e1, _⟩ := HC.out i g hg
          have hst := end_step hg HE.out
          have i2 : (i : Int) < (ts.length : Int) := by omega
          have hga : d = 0 → g.1 = 5 := fun h => by
            have e := hd0 h
            subst e
            have := HF.out.1.symm.trans hg
            rw [← Option.some.inj this]; exact HF.out.2
          clear hd0 HE hg c1
          by_cases g5 : g.1 = 5
          · rw [g5] at e1
            have hd : dep d g = d + 1 := by simp [dep, g5]
            rw [hd] at hst
            rcases hst with ⟨h, _⟩ | ⟨_, hst⟩
            · omega
            · have HN := Lib.hid hst
              have q2 : ((d : Int) + 1 == 0) = false := by rw [beq_eq_false_iff_ne]; omega
              clear hst hd hga g5
              go_wp2
              go_round
              case rel => exact ⟨d + 1, i + 1, by go_num, by go_num, by omega, by omega, by omega, by omega, HN⟩
              case measure => simp [intOf]; omega
          · have q5 : (g.1 == 5) = false := by simpa using g5
            have hd1 : d ≠ 0 := fun h => g5 (hga h)
            by_cases g6 : g.1 = 6
            · rw [g6] at e1
              have hd : dep d g = d - 1 := by simp [dep, g6]
              rw [hd] at hst
              have f1 : (d : Int) - 1 = ((d - 1 : Nat) : Int) := by omega
              obtain ⟨d2, hd2⟩ : ∃ d2, d - 1 = d2 := ⟨_, rfl⟩
              rw [hd2] at f1 hst
              have f0 : IntKind.i64.wrap ((d : Int) - 1) = (d2 : Int) := by rw [IntWalk.i64_in _ (by omega)]; exact f1
              have f2 : IntKind.i64.wrap (d2 : Int) = (d2 : Int) := IntWalk.i64_in _ (by omega)
              rcases hst with ⟨h, hst⟩ | ⟨h, hst⟩
              · subst h
                have HN := Lib.hid hst
                have q2 : (((0 : Nat) : Int) == 0) = true := rfl
                clear hst hd hga g5 g6 hd2
                go_wp2
                go_ret2
                rw [HN.out]
                exact ⟨rfl, rfl⟩
              · have HN := Lib.hid hst
                have q2 : ((d2 : Int) == 0) = false := by rw [beq_eq_false_iff_ne]; omega
                have hdl : d2 ≤ i + 1 := by omega
                clear hst hd hga g5 g6 hd2
                go_wp2
                go_round
                case rel => exact ⟨d2, i + 1, rfl, by go_num, by omega, by omega, by omega, fun e => absurd e h, HN⟩
                case measure => simp [intOf]; omega
            · have q6 : (g.1 == 6) = false := by simpa using g6
              have hd : dep d g = d := by simp [dep, g5, g6]
              rw [hd] at hst
              rcases hst with ⟨h, _⟩ | ⟨_, hst⟩
              · exact absurd h hd1
              · have HN := Lib.hid hst
                have q2 : ((d : Int) == 0) = false := by rw [beq_eq_false_iff_ne]; omega
                clear hst hd hga g5 g6
                go_wp2
                go_round
                case rel => exact ⟨d, i + 1, rfl, by go_num, by omega, by omega, by omega, fun e => absurd e hd1, HN⟩
                case measure => simp [intOf]; omega
        · have HN := Lib.hid (end_stop (by omega) HE.out)
          have i2 : ¬ (i : Int) < (ts.length : Int) := by omega
          clear HE c1
          go_wp2
          go_ret2
          rw [HN.out]
          exact ⟨rfl, rfl⟩
    · rw [grp_not hf h5, show grpP none = (0, 10) from rfl]
      have q5 : (f.1 != 5) = true := by simpa using h5
      have q5' : (f.1 == 5) = false := by simpa using h5
      clear hf h5
      go_enter Tryd.func11, Tryd.ntmps11
      go_wp2
      go_ret2
      exact ⟨rfl, rfl⟩
def wordE (l : List Tok) : By × Bool := match l with
  | [t] => if t.1 = 1 then (t.2, true) else ([], false)
  | _ => ([], false)
theorem wordE_len {l : List Tok} (h : l.length ≠ 1) : wordE l = ([], false) := by
  match l, h with
  | [], _ => rfl
  | [t], h => exact absurd rfl h
  | _ :: _ :: _, _ => rfl
set_option maxHeartbeats 1000000 in
theorem rword7_any (A : Option Addr) (c : Nat) (ts : List Tok) (w : World) (hr : Rd w A ts) (hl : ts.length ≤ 200000) :
    Calls Tryd.prog 19 #[.slice A ts.length c] w fun e w' => e = .returned (.tuple #[.string ⟨(wordE ts).1.toArray⟩, .bool (wordE ts).2]) ∧ w = w' := by
  by_cases h1 : ts.length = 1
  · match ts, h1 with
    | [t], _ =>
      obtain ⟨b, o, rfl, hcell⟩ := hr (by simp)
      obtain ⟨c1, c2⟩ := hcell 0 t rfl
      have d1 : w.cell? ⟨b, o, none⟩ = some (.int .i64 t.1) := by simpa using c1
      have d2 : w.cell? ⟨b, o + 1, none⟩ = some (.string ⟨t.2.toArray⟩) := by simpa using c2
      clear hcell hr hl
      by_cases ht : t.1 = 1
      · have HE := Lib.hid (show wordE [t] = (t.2, true) by simp [wordE, ht])
        rw [ht] at c1 d1
        obtain ⟨k, z⟩ := t
        simp only at c2 d2 HE
        clear ht
        generalize hts : wordE [(k, z)] = v at *
        go_enter Tryd.func19, Tryd.ntmps19
        go_wp2
        go_ret2
        rw [HE.out]
        exact ⟨rfl, rfl⟩
      · have HE := Lib.hid (show wordE [t] = ([], false) by simp [wordE, ht])
        have q : (t.1 != 1) = true := by simpa using ht
        have q' : (t.1 == 1) = false := by simpa using ht
        obtain ⟨k, z⟩ := t
        simp only at c1 d1 c2 d2 HE q q'
        clear ht
        generalize hts : wordE [(k, z)] = v at *
        go_enter Tryd.func19, Tryd.ntmps19
        go_wp2
        go_ret2
        rw [HE.out]
        exact ⟨rfl, rfl⟩
  · rw [wordE_len h1]
    have q : ((ts.length : Int) != 1) = true := by simp; omega
    have q' : ((ts.length : Int) == 1) = false := by rw [beq_eq_false_iff_ne]; omega
    clear hr h1
    go_enter Tryd.func19, Tryd.ntmps19
    go_wp2
    go_ret2
    exact ⟨rfl, rfl⟩
end Go.Proofs.YtjneeikkakekjaaDoor
