/-
  Package items: say, a Text behind none.
-/
import Derived.Test.YtckldeabbkdbjaaDoorK11
namespace Go.Proofs.YtckldeabbkdbjaaDoor
open Go.RowKit

set_option maxRecDepth 100000 in
set_option maxHeartbeats 8000000 in
theorem say_word (w V : World) (n : Nat) (A : Option Addr) (c : Nat) (out : List Tok) (z : By) (B : Option Addr) (d : Nat) (notes : List Tok) (h : Sd w V n A c out B d notes) (he : endT false out = false) (hl : out.length ≤ 190000) (hz : z.length ≤ 100000) :
    Calls Tryd.prog 45 #[.agg #[.int .i64 1, .string ⟨z.toArray⟩], .pointer (some ⟨n + 2, 0, none⟩), .pointer (some ⟨n + 3, 0, none⟩), .pointer (some ⟨n + 1, 0, none⟩)] V (SayPost w n (out ++ [(1, z)]) B d notes) := by
  have b1 := one_below V (.cells #[.int .i64 1, .string ⟨z.toArray⟩] 49)
  have h1 := h.sk.below b1
  obtain ⟨u, hu, _⟩ := h.bu
  have hu1 := hu.below b1
  have hq := heap_alloc_new V (.cells #[.int .i64 1, .string ⟨z.toArray⟩] 49)
  obtain ⟨V6, hW⟩ : ∃ W, V.alloc (.cells #[.int .i64 1, .string ⟨z.toArray⟩] 49) = W := ⟨_, rfl⟩
  rw [hW] at h1 hu1 hq
  have q0 := cell_of hq 0
  have q1 := cell_of hq 1
  have hla := last_ask h1 he
  have S0 := Lib.hid h1
  have B0 := Lib.hid hu1
  have HQ := Lib.hid hq
  have hne : V.heap.size ≠ n + 3 := by have := h.sk.size; omega
  have hz64 : n ≤ V6.heap.size := by have := h1.size; omega
  have CR := Lib.hid (reset_any n u V6 hu1)
  have CW := Lib.hid (fun (W : World) (hb : Bu W n []) (hs : n ≤ W.heap.size) => Tryd.Builder_WriteString n (n + 3) (Lib.byteCells []) ⟨z.toArray⟩ W hb (by rw [byteCells_len]; show 0 + z.length ≤ _; omega) hs)
  obtain ⟨r, hr⟩ : ∃ r, out ++ [((1 : Int), z)] = r := ⟨_, rfl⟩
  rw [hr]
  have HR := Lib.hid hr
  clear h h1 hu hu1 b1 he hr hz hq
  go_enter Tryd.func45, Tryd.ntmps45
  go_upto_region 1 with fail
  go_cut [18] from 5 to 18 (fun v wc => v = .bool false ∧ wc = V6)
  case first =>
    rcases hla with e1 | ⟨g, m, κ, e1, e2, e3⟩
    · go_wp2_with fail
      go_meet
      exact ⟨rfl, rfl⟩
    · go_wp2_with fail
      go_meet
      exact ⟨rfl, rfl⟩
  case rest =>
  obtain ⟨rfl, rfl⟩ := hcut
  clear hla
  go_wp2_with fail
  refine CR.out.mono ?_
  rintro e W5 ⟨rfl, hb5, hl5, ho5⟩
  have S5 := Lib.hid (S0.out.others B0.out.blk hl5 ho5)
  have hq5 := ho5 _ _ HQ.out (fun e => hne (Option.some.inj e)) (fun c fz e => by simp only [Obj.cells.injEq] at e; exact absurd e.2.1 (by decide))
  have HQ5 := Lib.hid hq5
  have q1 : W5.cell? ⟨V.heap.size, 1, none⟩ = some (.string ⟨z.toArray⟩) := cell_of hq5 1
  have hz5 : n ≤ W5.heap.size := by have := S5.out.size; omega
  have B5 := Lib.hid hb5
  clear CR q0 hl5 ho5 hq5 hb5
  go_wp2_with fail
  refine (CW.out W5 B5.out hz5).mono ?_
  rintro e W6 ⟨rfl, hb6, hl6, ho6⟩
  have S6 := Lib.hid (S5.out.others B5.out.blk hl6 ho6)
  have hq6 := ho6 _ _ HQ5.out (fun e => hne (Option.some.inj e)) (fun c fz e => by simp only [Obj.cells.injEq] at e; exact absurd e.2.1 (by decide))
  have q0 : W6.cell? ⟨V.heap.size, 0, none⟩ = some (.int .i64 1) := cell_of hq6 0
  have q1 : W6.cell? ⟨V.heap.size, 1, none⟩ = some (.string ⟨z.toArray⟩) := cell_of hq6 1
  have B6 : Hid (Bu W6 n z) := Lib.hid (.inr (by rw [byteCells_app, List.nil_append] at hb6; exact hb6))
  clear CW hl6 ho6 hq6 hb6 S5 B5 HQ5 S0 B0 HQ hne hz5 hz64
  go_wp2_with fail
  have S8 := Lib.hid (S6.out.below (V' := W6.drew) (ibelow_drew _))
  have b9 := one_below W6.drew (.cells #[.int .i64 1, .string ⟨z.toArray⟩] 49)
  have S9 := Lib.hid (S8.out.below b9)
  have B9 := Lib.hid ((B6.out.below (V' := W6.drew) (ibelow_drew _)).below b9)
  have c10 : W6.cell? ⟨n + 1, 0, none⟩ = some (.pointer (some ⟨n, 0, none⟩)) := cell_of S6.out.box 0
  have c11 : W6.cell? ⟨n, 0, none⟩ = some (.slice A out.length c) := cell_of S6.out.said 0
  have rd9 : Rd (W6.drew.alloc (.cells #[.int .i64 1, .string ⟨z.toArray⟩] 49)) (some ⟨W6.drew.heap.size, 0, none⟩) [((1 : Int), z)] := one_read (new_fst W6.drew (.int .i64 1) (.string ⟨z.toArray⟩) 49) (new_snd W6.drew (.int .i64 1) (.string ⟨z.toArray⟩) 49)
  have c12 : (W6.alloc (.cells #[.int .i64 1, .string ⟨z.toArray⟩] 49)).cell? ⟨n + 1, 0, none⟩ = some (.pointer (some ⟨n, 0, none⟩)) := cell_of S9.out.box 0
  have c13 : (W6.alloc (.cells #[.int .i64 1, .string ⟨z.toArray⟩] 49)).cell? ⟨n, 0, none⟩ = some (.slice A out.length c) := cell_of S9.out.said 0
  have q2 : (W6.alloc (.cells #[.int .i64 1, .string ⟨z.toArray⟩] 49)).cell? ⟨V.heap.size, 0, none⟩ = some (.int .i64 1) := cell_below (one_below W6 _) q0
  have q3 : (W6.alloc (.cells #[.int .i64 1, .string ⟨z.toArray⟩] 49)).cell? ⟨V.heap.size, 1, none⟩ = some (.string ⟨z.toArray⟩) := cell_below (one_below W6 _) q1
  clear b9
  go_cut [] from 33 to 40 (fun wc => ∃ g1 c1, Hid (Sk w wc n (lastP A out) (some ⟨g1, 0, none⟩) c1 r B d notes) ∧ Hid (Bu wc n z))
  case first =>
   go_region_law (refine step_append_gi (W6.drew.alloc (.cells #[.int .i64 1, .string ⟨z.toArray⟩] 49)) (by rfl) _ _ (by rfl) n A c out (by rfl) S9.out.out (some ⟨W6.drew.heap.size, 0, none⟩) 1 1 [((1 : Int), z)] (by rfl) (by rfl) rd9 (by show _ + 1 ≤ _; omega) (by have := S9.out.size; omega) r HR.out ?_; intro A1 c1 V7 ho7 hg7; obtain ⟨d0, f0, d1, g1, hA1, S10, B10⟩ := S9.out.more HR.out ho7 hg7)
   all_goals
    go_wp2_with fail
    go_meet
    refine ⟨g1, c1, ?_⟩
    rw [← hA1]
    exact ⟨S10, Lib.hid (B10.out _ B9.out)⟩
  case rest =>
   obtain ⟨g1, c1, S11, B11⟩ := hcut
   obtain ⟨m, hm⟩ : ∃ m, out.length = m := ⟨_, rfl⟩
   have hL : r.length = m + 1 := by rw [← HR.out, ← hm]; simp
   have HLP := Lib.hid (show lastP (some ⟨g1, 0, none⟩) r = .pointer (some ⟨g1, m * 2, none⟩) by rw [← HR.out, ← hm]; exact lastP_snoc g1 out _)
   have HE := Lib.hid (show r = out ++ [((1 : Int), z)] from HR.out.symm)
   have e0 : wc.cell? ⟨n, 0, none⟩ = some (.slice (some ⟨g1, 0, none⟩) r.length c1) := cell_of S11.out.said 0
   have e1 : wc.cell? ⟨n + 1, 0, none⟩ = some (.pointer (some ⟨n, 0, none⟩)) := cell_of S11.out.box 0
   have e2 : wc.cell? ⟨n + 2, 0, none⟩ = some (lastP A out) := cell_of S11.out.last 0
   have f2 := frozen_of S11.out.last 0
   obtain ⟨N, hN⟩ : ∃ N, r.length = N := ⟨_, rfl⟩
   rw [hN] at e0 hL
   have hw1 : IntKind.i64.wrap ((N : Int) - 1) = (m : Int) := by rw [show (N : Int) - 1 = (m : Int) by omega]; exact IntWalk.i64_in _ (by omega)
   have hlt : (m : Int) < (N : Int) := by omega
   have S12 := Lib.hid ((S11.out.below (V' := wc.drew) (ibelow_drew _)).setLast (.pointer (some ⟨g1, m * 2, none⟩)))
   have B12 := Lib.hid ((B11.out.below (V' := wc.drew) (ibelow_drew _)).set (q := ⟨n + 2, 0, none⟩) (S11.out.below (V' := wc.drew) (ibelow_drew _)).last (by decide) (by decide) (.pointer (some ⟨g1, m * 2, none⟩)))
   clear S11 B11 hL hN S8 S9 B9 hm c10 c11 c12 c13 q0 q1 q2 q3 rd9 S6 B6 HR
   go_wp2_with fail
   go_region
   all_goals
    go_wp2
    go_end0
    exact ⟨rfl, some ⟨g1, 0, none⟩, c1, ⟨by rw [HLP.out]; exact S12.out, z, B12.out, fun _ => ⟨out, HE.out⟩⟩⟩
end Go.Proofs.YtckldeabbkdbjaaDoor
