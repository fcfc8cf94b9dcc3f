/-
  Package items: say, an item of its own.
-/
import Derived.Test.YtckldeabbkdbjaaDoorK10
import Derived.BigRegion
import Derived.Deep.CutRange
namespace Go.Proofs.YtckldeabbkdbjaaDoor
open Go.RowKit

/-- The last one's place and kind, as say asks for them. -/
theorem last_ask {w V : World} {n : Nat} {A : Option Addr} {c : Nat} {out : List Tok} {B : Option Addr} {d : Nat} {notes : List Tok} (h : Sk w V n (lastP A out) A c out B d notes) (he : endT false out = false) :
    (V.cell? ⟨n + 2, 0, none⟩ = some (.pointer none)) ∨ ∃ (g m : Nat) (κ : Int), V.cell? ⟨n + 2, 0, none⟩ = some (.pointer (some ⟨g, m * 2, none⟩)) ∧ V.cell? ⟨g, m * 2, none⟩ = some (.int .i64 κ) ∧ (κ == 1) = false := by
  rcases List.eq_nil_or_concat out with rfl | ⟨pre, f, hpf⟩
  · exact .inl (cell_of h.last 0)
  · rw [List.concat_eq_append] at hpf
    subst hpf
    obtain ⟨g, rfl, k1, _⟩ := h.setText []
    exact .inr ⟨g, pre.length, f.1, (cell_of h.last 0).trans (congrArg some (lastP_snoc g pre f)), k1, by rw [end_app] at he; exact he⟩
theorem Sk.more {w V V' : World} {n : Nat} {p : Value} {A : Option Addr} {c : Nat} {out : List Tok} {B : Option Addr} {d : Nat} {notes : List Tok} (h : Sk w V n p A c out B d notes) {A' : Option Addr} {c' : Nat} {t : Tok} {r : List Tok} (hr : out ++ [t] = r) (ho : Own 49 V' n A' c' r) (hg : V.grownBy V' (Value.slice A out.length c).ownBlock) :
    V'.cell? ⟨n, 0, none⟩ = some (.slice A out.length c) ∧ V'.frozen? ⟨n, 0, none⟩ = false ∧ V'.cell? ⟨n + 1, 0, none⟩ = some (.pointer (some ⟨n, 0, none⟩)) ∧ ∃ g, A' = some ⟨g, 0, none⟩ ∧ Hid (Sk w (V'.setCell ⟨n, 0, none⟩ (.slice A' r.length c')) n p A' c' r B d notes) ∧ Hid (∀ u, Bu V n u → Bu (V'.setCell ⟨n, 0, none⟩ (.slice A' r.length c')) n u) := by
  have s1 : V'.heap[n]? = some (.cells #[.slice A out.length c] 23 (0, 0)) := (hg.block _ (lt_of_blk h.said) (own_ne h.out h.said (by decide)).symm).trans h.said
  have s2 : V'.heap[n + 1]? = some (.cells #[.pointer (some ⟨n, 0, none⟩)] 57 (0, 0)) := (hg.block _ (lt_of_blk h.box) (own_ne h.out h.box (by decide)).symm).trans h.box
  obtain ⟨g, hA, _⟩ := ho.addr (by rw [← hr]; simp)
  exact ⟨cell_of s1 0, frozen_of s1 0, cell_of s2 0, g, hA, Lib.hid (h.push ho hg), Lib.hid fun u hu => (hu.grown h.out hg).set (q := ⟨n, 0, none⟩) s1 (by decide) (by decide) _⟩
set_option maxRecDepth 100000 in
set_option maxHeartbeats 8000000 in
/-- An item of its own: no Text, or a Text behind none. -/
theorem say_other (w V : World) (n : Nat) (A : Option Addr) (c : Nat) (out : List Tok) (κ : Int) (z : By) (B : Option Addr) (d : Nat) (notes : List Tok) (h : Sd w V n A c out B d notes) (hκ : κ ≠ 1) (hl : out.length ≤ 190000) :
    Calls Tryd.prog 45 #[.agg #[.int .i64 κ, .string ⟨z.toArray⟩], .pointer (some ⟨n + 2, 0, none⟩), .pointer (some ⟨n + 3, 0, none⟩), .pointer (some ⟨n + 1, 0, none⟩)] V (SayPost w n (out ++ [(κ, z)]) B d notes) := by
  have b1 := one_below V (.cells #[.int .i64 κ, .string ⟨z.toArray⟩] 49)
  have h1 := h.sk.below b1
  obtain ⟨u, hu, _⟩ := h.bu
  have hu1 := hu.below b1
  have q0 := new_fst V (.int .i64 κ) (.string ⟨z.toArray⟩) 49
  have q1 := new_snd V (.int .i64 κ) (.string ⟨z.toArray⟩) 49
  obtain ⟨V6, hW⟩ : ∃ W, V.alloc (.cells #[.int .i64 κ, .string ⟨z.toArray⟩] 49) = W := ⟨_, rfl⟩
  rw [hW] at h1 hu1 q0 q1
  have S6 := Lib.hid h1
  have B6 := Lib.hid hu1
  obtain ⟨r, hr⟩ : ∃ r, out ++ [(κ, z)] = r := ⟨_, rfl⟩
  rw [hr]
  have HR := Lib.hid hr
  have n1 : (κ == 1) = false := by simpa using hκ
  clear h h1 hu hu1 b1 hκ hr
  go_enter Tryd.func45, Tryd.ntmps45
  go_wp2_with fail
  have S8 := Lib.hid (S6.out.below (V' := V6.drew) (ibelow_drew _))
  have b9 := one_below V6.drew (.cells #[.int .i64 κ, .string ⟨z.toArray⟩] 49)
  have S9 := Lib.hid (S8.out.below b9)
  have B9 := Lib.hid ((B6.out.below (V' := V6.drew) (ibelow_drew _)).below b9)
  have c10 : V6.cell? ⟨n + 1, 0, none⟩ = some (.pointer (some ⟨n, 0, none⟩)) := cell_of S6.out.box 0
  have c11 : V6.cell? ⟨n, 0, none⟩ = some (.slice A out.length c) := cell_of S6.out.said 0
  have rd9 : Rd (V6.drew.alloc (.cells #[.int .i64 κ, .string ⟨z.toArray⟩] 49)) (some ⟨V6.drew.heap.size, 0, none⟩) [(κ, z)] := one_read (new_fst V6.drew (.int .i64 κ) (.string ⟨z.toArray⟩) 49) (new_snd V6.drew (.int .i64 κ) (.string ⟨z.toArray⟩) 49)
  have c12 : (V6.alloc (.cells #[.int .i64 κ, .string ⟨z.toArray⟩] 49)).cell? ⟨n + 1, 0, none⟩ = some (.pointer (some ⟨n, 0, none⟩)) := cell_of S9.out.box 0
  have c13 : (V6.alloc (.cells #[.int .i64 κ, .string ⟨z.toArray⟩] 49)).cell? ⟨n, 0, none⟩ = some (.slice A out.length c) := cell_of S9.out.said 0
  have q2 : (V6.alloc (.cells #[.int .i64 κ, .string ⟨z.toArray⟩] 49)).cell? ⟨V.heap.size, 0, none⟩ = some (.int .i64 κ) := cell_below (one_below V6 _) q0
  have q3 : (V6.alloc (.cells #[.int .i64 κ, .string ⟨z.toArray⟩] 49)).cell? ⟨V.heap.size, 1, none⟩ = some (.string ⟨z.toArray⟩) := cell_below (one_below V6 _) q1
  clear b9
  go_cut [] from 33 to 40 (fun wc => ∃ g1 c1, Hid (Sk w wc n (lastP A out) (some ⟨g1, 0, none⟩) c1 r B d notes) ∧ Hid (Bu wc n u))
  case first =>
   go_region_law (refine step_append_gi (V6.drew.alloc (.cells #[.int .i64 κ, .string ⟨z.toArray⟩] 49)) (by rfl) _ _ (by rfl) n A c out (by rfl) S9.out.out (some ⟨V6.drew.heap.size, 0, none⟩) 1 1 [(κ, z)] (by rfl) (by rfl) rd9 (by show _ + 1 ≤ _; omega) (by have := S9.out.size; omega) r HR.out ?_; intro A1 c1 V7 ho7 hg7; obtain ⟨d0, f0, d1, g1, hA1, S10, B10⟩ := S9.out.more HR.out ho7 hg7)
   all_goals
    go_wp2_with fail
    go_meet
    refine ⟨g1, c1, ?_⟩
    rw [← hA1]
    exact ⟨S10, Lib.hid (B10.out _ B9.out)⟩
  case rest =>
   obtain ⟨g1, c1, S11, B11⟩ := hcut
   obtain ⟨m, hm⟩ : ∃ m, out.length = m := ⟨_, rfl⟩
   have hL : r.length = m + 1 := by rw [← HR.out, ← hm]; simp
   have HLP := Lib.hid (show lastP (some ⟨g1, 0, none⟩) r = .pointer (some ⟨g1, m * 2, none⟩) by rw [← HR.out, ← hm]; exact lastP_snoc g1 out _)
   have HE := Lib.hid (show endT false r = false by rw [← HR.out, end_app]; exact n1)
   have e0 : wc.cell? ⟨n, 0, none⟩ = some (.slice (some ⟨g1, 0, none⟩) r.length c1) := cell_of S11.out.said 0
   have e1 : wc.cell? ⟨n + 1, 0, none⟩ = some (.pointer (some ⟨n, 0, none⟩)) := cell_of S11.out.box 0
   have e2 : wc.cell? ⟨n + 2, 0, none⟩ = some (lastP A out) := cell_of S11.out.last 0
   have f2 := frozen_of S11.out.last 0
   obtain ⟨N, hN⟩ : ∃ N, r.length = N := ⟨_, rfl⟩
   rw [hN] at e0 hL
   have hw1 : IntKind.i64.wrap ((N : Int) - 1) = (m : Int) := by rw [show (N : Int) - 1 = (m : Int) by omega]; exact IntWalk.i64_in _ (by omega)
   have hlt : (m : Int) < (N : Int) := by omega
   have S12 := Lib.hid ((S11.out.below (V' := wc.drew) (ibelow_drew _)).setLast (.pointer (some ⟨g1, m * 2, none⟩)))
   have B12 := Lib.hid ((B11.out.below (V' := wc.drew) (ibelow_drew _)).set (q := ⟨n + 2, 0, none⟩) (S11.out.below (V' := wc.drew) (ibelow_drew _)).last (by decide) (by decide) (.pointer (some ⟨g1, m * 2, none⟩)))
   clear S11 B11 hL hN S8 S9 B9 hm c10 c11 c12 c13 q0 q1 q2 q3 rd9 S6 B6 hW HR
   go_wp2_with fail
   go_region
   all_goals
    go_wp2
    go_end0
    exact ⟨rfl, some ⟨g1, 0, none⟩, c1, ⟨by rw [HLP.out]; exact S12.out, u, B12.out, fun q => by rw [HE.out] at q; cases q⟩⟩
end Go.Proofs.YtckldeabbkdbjaaDoor
