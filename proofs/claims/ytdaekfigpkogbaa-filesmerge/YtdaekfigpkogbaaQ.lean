/-
  The law's fixed calls: they answer as the document fixes it; old memory stays.
-/
import Derived.Test.YtdaekfigpkogbaaO
namespace Go.Proofs.Ytdaekfigpkogbaa
open Go.RowKit

def fbx : Fl := ([98], [120])
def fby : Fl := ([98], [121])
def fa0 : Fl := ([97], [])
def fB0 : Fl := ([66], [])
def fb0 : Fl := ([98], [])
def At2 (w : World) (n : Nat) (fs : List Fl) (v : Value) (e : Ending) (w' : World) : Prop := ∃ A c, e = .returned (.tuple #[.slice A n c, v]) ∧ Own w' w.heap.size A c fs ∧ Below w.heap.size w w'
theorem Res2.at {w : World} {fs gs : List Fl} {v u : Value} {n : Nat} (h : fs = gs) (hn : gs.length = n) (hv : v = u) {e : Ending} {w' : World} (k : Res2 w fs v e w') : At2 w n gs u e w' := by
  subst h; subst hn; subst hv; exact k
theorem Res2.atI {w : World} {fs : List Fl} {a : Int} {e : Ending} {w' : World} (gs : List Fl) (n : Nat) (b : Int) (h : fs = gs) (hn : gs.length = n) (hv : a = b) (k : Res2 w fs (.int .i64 a) e w') : At2 w n gs (.int .i64 b) e w' := Res2.at h hn (by rw [hv]) k
theorem Res2.atB {w : World} {fs : List Fl} {a : Bool} {e : Ending} {w' : World} (gs : List Fl) (n : Nat) (b : Bool) (h : fs = gs) (hn : gs.length = n) (hv : a = b) (k : Res2 w fs (.bool a) e w') : At2 w n gs (.bool b) e w' := Res2.at h hn (by rw [hv]) k
theorem sorted1 (f : Fl) : Sorted [f] := List.pairwise_cons.2 ⟨(fun _ h => by cases h), List.Pairwise.nil⟩
theorem sorted2 {f g : Fl} (h : Op.bytesLess f.1 g.1 = true) : Sorted [f, g] := List.pairwise_cons.2 ⟨(fun x hx => by simp at hx; subst hx; exact h), sorted1 g⟩

theorem fx1 (w : World) : Calls Try.prog 16 #[.slice none 0 0, .agg #[.string ⟨#[98]⟩, .string ⟨#[120]⟩]] w (At2 w 1 [fbx] (.int .i64 0)) :=
  (put_any none 0 [] fbx w (Rd.empty _ _) (by simp) (by simp) (by omega) (Lib.hid Sorted.nil) (by decide) (by decide)).mono fun _ _ h => Res2.atI [fbx] 1 0 (by decide) rfl (by decide) h
theorem fx2 (w : World) (A : Option Addr) (c : Nat) (ho : Own w 0 A c [fbx]) : Calls Try.prog 16 #[.slice A 1 c, .agg #[.string ⟨#[97]⟩, .string ⟨#[]⟩]] w (At2 w 2 [fa0, fbx] (.int .i64 0)) :=
  (put_any A c [fbx] fa0 w ho.rd (by simp) ho.cap.1 ho.cap.2.1 (Lib.hid (sorted1 _)) (by decide) (by decide)).mono fun _ _ h => Res2.atI [fa0, fbx] 2 0 (by decide) rfl (by decide) h
theorem fx3 (w : World) (A : Option Addr) (c : Nat) (ho : Own w 0 A c [fa0, fbx]) : Calls Try.prog 16 #[.slice A 2 c, .agg #[.string ⟨#[98]⟩, .string ⟨#[121]⟩]] w (At2 w 2 [fa0, fby] (.int .i64 0)) :=
  (put_any A c [fa0, fbx] fby w ho.rd (by simp) ho.cap.1 ho.cap.2.1 (Lib.hid (sorted2 (by decide))) (by decide) (by decide)).mono fun _ _ h => Res2.atI [fa0, fby] 2 0 (by decide) rfl (by decide) h
theorem fx4 (w : World) (A : Option Addr) (c : Nat) (ho : Own w 0 A c [fa0, fbx]) : Calls Try.prog 16 #[.slice A 2 c, .agg #[.string ⟨#[66]⟩, .string ⟨#[]⟩]] w (At2 w 0 [] (.int .i64 2)) :=
  (put_any A c [fa0, fbx] fB0 w ho.rd (by simp) ho.cap.1 ho.cap.2.1 (Lib.hid (sorted2 (by decide))) (by decide) (by decide)).mono fun _ _ h => Res2.atI [] 0 2 (by decide) rfl (by decide) h
theorem fx5 (w : World) (A : Option Addr) (c : Nat) (ho : Own w 0 A c [fa0, fby]) : Calls Try.prog 10 #[.slice A 2 c, .string ⟨#[98]⟩] w fun e w' => e = .returned (.tuple #[.string ⟨#[121]⟩, .bool true]) ∧ Below w.heap.size w w' :=
  (get_any A c [fa0, fby] [98] w ho.rd (by simp) (Lib.hid (sorted2 (by decide)))).mono fun _ _ h => ⟨h.1.trans (ret_two (str_eq (by decide)) (congrArg Value.bool (by decide))), h.2⟩
theorem fx6 (w : World) (A : Option Addr) (c : Nat) (ho : Own w 0 A c [fa0, fby]) : Calls Try.prog 10 #[.slice A 2 c, .string ⟨#[99]⟩] w fun e w' => e = .returned (.tuple #[.string ⟨#[]⟩, .bool false]) ∧ Below w.heap.size w w' :=
  (get_any A c [fa0, fby] [99] w ho.rd (by simp) (Lib.hid (sorted2 (by decide)))).mono fun _ _ h => ⟨h.1.trans (ret_two (str_eq (by decide)) (congrArg Value.bool (by decide))), h.2⟩
theorem fx7 (w : World) (A : Option Addr) (c : Nat) (ho : Own w 0 A c [fa0, fby]) : Calls Try.prog 14 #[.slice A 2 c, .string ⟨#[97]⟩] w (At2 w 1 [fby] (.bool true)) :=
  (drop_any A c [fa0, fby] [97] w ho.rd (by simp) ho.cap.1 ho.cap.2.1 (Lib.hid (sorted2 (by decide)))).mono fun _ _ h => Res2.atB [fby] 1 true (by decide) rfl (by decide) h
theorem fx8 (w : World) : Calls Try.prog 12 #[.string ⟨#[97, 45, 49, 46, 116, 101, 120]⟩] w fun e w' => e = .returned (.bool true) ∧ w = w' := (name_any [97, 45, 49, 46, 116, 101, 120] w (by decide)).mono fun _ _ h => ⟨h.1.trans (ret_bool (by decide)), h.2⟩
theorem fx9 (w : World) : Calls Try.prog 12 #[.string ⟨#[]⟩] w fun e w' => e = .returned (.bool false) ∧ w = w' := (name_any [] w (by decide)).mono fun _ _ h => ⟨h.1.trans (ret_bool (by decide)), h.2⟩
theorem fx10 (w : World) : Calls Try.prog 12 #[.string ⟨#[97, 32, 98]⟩] w fun e w' => e = .returned (.bool false) ∧ w = w' := (name_any [97, 32, 98] w (by decide)).mono fun _ _ h => ⟨h.1.trans (ret_bool (by decide)), h.2⟩
theorem fx11 (w : World) (A : Option Addr) (c : Nat) (ho : Own w 0 A c [fa0, fby]) : Calls Try.prog 19 #[.slice A 2 c] w fun e w' => e = .returned (.bool true) ∧ Below w.heap.size w w' :=
  (right_any A c [fa0, fby] w ho.rd (by simp) (fun f hf => by simp at hf; rcases hf with rfl | rfl <;> decide)).mono fun _ _ h => ⟨h.1.trans (ret_bool (by decide)), h.2⟩
theorem fx12 (w : World) (b : Nat) (h1 : w.cell? ⟨b, 0, none⟩ = some (.string ⟨#[98]⟩)) (h2 : w.cell? ⟨b, 1, none⟩ = some (.string ⟨#[]⟩)) (h3 : w.cell? ⟨b, 2, none⟩ = some (.string ⟨#[97]⟩)) (h4 : w.cell? ⟨b, 3, none⟩ = some (.string ⟨#[]⟩)) :
    Calls Try.prog 19 #[.slice (some ⟨b, 0, none⟩) 2 2] w fun e w' => e = .returned (.bool false) ∧ Below w.heap.size w w' :=
  (right_any (some ⟨b, 0, none⟩) 2 [fb0, fa0] w (fun _ => ⟨b, 0, rfl, fun i f hi => by
    match i, hi with
    | 0, hi => simp at hi; subst hi; exact ⟨h1, h2⟩
    | 1, hi => simp at hi; subst hi; exact ⟨h3, h4⟩
    | i + 2, hi => simp at hi⟩) (by simp) (fun f hf => by simp at hf; rcases hf with rfl | rfl <;> decide)).mono fun _ _ h => ⟨h.1.trans (ret_bool (by decide)), h.2⟩
theorem diff_fix : diffL [fa0, fbx] [fa0, fby] = [[98]] := by
  rw [diff_e rfl rfl, diff_n (x := fbx) (y := fby) rfl (by decide)]
  simp [diffL, fbx]
theorem fx13 (w : World) (A B : Option Addr) (c d : Nat) (ho : Own w 0 A c [fa0, fbx]) (hq : Own w 0 B d [fa0, fby]) : Calls Try.prog 26 #[.slice A 2 c, .slice B 2 d] w fun e w' => ∃ N nc, e = .returned (.slice N 1 nc) ∧ RdS w' N [[98]] ∧ Below w.heap.size w w' :=
  (diff_any A B c d [fa0, fbx] [fa0, fby] w ho.rd hq.rd (by simp) (by simp) ho.cap.1 hq.cap.1 ho.cap.2.1 hq.cap.2.1).mono fun _ _ h => by
    rw [diff_fix] at h
    obtain ⟨N, nc, he, h1, h2⟩ := h
    exact ⟨N, nc, he, h1.rd, h2⟩
theorem fx14 (w : World) (A : Option Addr) (c b : Nat) (h : RdS w A [[98]]) (h1 : w.cell? ⟨b, 0, none⟩ = some (.string ⟨#[98]⟩)) : Calls Try.prog 25 #[.slice A 1 c, .slice (some ⟨b, 0, none⟩) 1 1] w fun e w' => e = .returned (.bool true) ∧ ∃ n, w' = w.drewN n :=
  (words_any A (some ⟨b, 0, none⟩) c 1 [[98]] [[98]] w h (fun _ => ⟨b, 0, rfl, fun i x hi => by
    match i, hi with
    | 0, hi => simp at hi; subst hi; exact h1
    | i + 1, hi => simp at hi⟩) (by simp) (by simp)).mono fun _ _ h => ⟨h.1.trans (ret_bool (by decide)), h.2⟩
theorem fx15 (w : World) (A B : Option Addr) (c d : Nat) (ho : Own w 0 A c [fa0, fby]) (hq : Own w 0 B d [fa0, fby]) : Calls Try.prog 28 #[.slice A 2 c, .slice B 2 d] w fun e w' => e = .returned (.bool true) ∧ ∃ n, w' = w.drewN n :=
  (same_any A B c d [fa0, fby] [fa0, fby] w ho.rd hq.rd (by simp) (by simp)).mono fun _ _ h => ⟨h.1.trans (ret_bool (by decide)), h.2⟩
theorem fx16 (w : World) (A B : Option Addr) (c d : Nat) (ho : Own w 0 A c [fa0, fbx]) (hq : Own w 0 B d [fa0, fby]) : Calls Try.prog 28 #[.slice A 2 c, .slice B 2 d] w fun e w' => e = .returned (.bool false) ∧ ∃ n, w' = w.drewN n :=
  (same_any A B c d [fa0, fbx] [fa0, fby] w ho.rd hq.rd (by simp) (by simp)).mono fun _ _ h => ⟨h.1.trans (ret_bool (by decide)), h.2⟩

set_option maxRecDepth 100000 in
set_option maxHeartbeats 8000000 in
theorem fixed_any (w : World) : Calls Try.prog 20 #[] w fun e w' => e = .returned (.bool true) ∧ Below w.heap.size w w' := by
  go_enter Try.func20, Try.ntmps20
  go_wp2_with fail
  refine (fx1 _).mono ?_
  rintro e w1 ⟨A1, c1, rfl, ho1, hb⟩
  replace ho1 := ho1.mono (Nat.zero_le _)
  go_wp2_with fail
  refine (fx2 _ A1 c1 ho1).mono ?_
  rintro e w2 ⟨A2, c2, rfl, ho2, hb2⟩
  replace ho2 := ho2.mono (Nat.zero_le _)
  replace hb := bch hb hb2
  clear hb2 ho1
  go_wp2_with fail
  refine (fx3 _ A2 c2 ho2).mono ?_
  rintro e w3 ⟨A3, c3, rfl, ho3, hb2⟩
  replace ho3 := ho3.mono (Nat.zero_le _)
  replace ho2 := ho2.below hb2
  replace hb := bch hb hb2
  clear hb2
  go_wp2_with fail
  refine (fx4 _ A2 c2 ho2).mono ?_
  rintro e w4 ⟨A4, c4, rfl, _, hb2⟩
  replace ho3 := ho3.below hb2
  replace ho2 := ho2.below hb2
  replace hb := bch hb hb2
  clear hb2
  go_wp2_with fail
  refine (fx5 _ A3 c3 ho3).mono ?_
  rintro e w5 ⟨rfl, hb2⟩
  replace ho3 := ho3.below hb2
  replace ho2 := ho2.below hb2
  replace hb := bch hb hb2
  clear hb2
  go_wp2_with fail
  refine (fx6 _ A3 c3 ho3).mono ?_
  rintro e w6 ⟨rfl, hb2⟩
  replace ho3 := ho3.below hb2
  replace ho2 := ho2.below hb2
  replace hb := bch hb hb2
  clear hb2
  go_wp2_with fail
  refine (fx7 _ A3 c3 ho3).mono ?_
  rintro e w7 ⟨A7, c7, rfl, _, hb2⟩
  replace ho3 := ho3.below hb2
  replace ho2 := ho2.below hb2
  replace hb := bch hb hb2
  clear hb2
  obtain ⟨bb, oo, rfl, hcell⟩ := ho2.rd (by simp)
  have cb := (hcell 0 fa0 rfl).1
  simp only [Nat.zero_mul, Nat.add_zero] at cb
  have cb' : w7.cell? ⟨bb, oo, none⟩ = some (.string ⟨#[97]⟩) := cb
  clear cb hcell
  go_wp2_with fail
  refine (fx8 _).mono ?_
  rintro e w' ⟨rfl, rfl⟩
  go_wp2_with fail
  refine (fx9 _).mono ?_
  rintro e w' ⟨rfl, rfl⟩
  go_wp2_with fail
  refine (fx10 _).mono ?_
  rintro e w' ⟨rfl, rfl⟩
  go_wp2_with fail
  refine (fx11 _ A3 c3 ho3).mono ?_
  rintro e w8 ⟨rfl, hb2⟩
  replace ho3 := ho3.below hb2
  replace ho2 := ho2.below hb2
  replace hb := bch hb hb2
  clear hb2 cb'
  go_wp2_with fail
  refine (fx12 _ w8.heap.size (by rw [World.cell?_alloc_new]; rfl) (by rw [World.cell?_alloc_new]; rfl) (by rw [World.cell?_alloc_new]; rfl) (by rw [World.cell?_alloc_new]; rfl)).mono ?_
  rintro e w9 ⟨rfl, hb2⟩
  have hb1 := one_below w8 (.cells #[.string ⟨#[98]⟩, .string ⟨#[]⟩, .string ⟨#[97]⟩, .string ⟨#[]⟩] 25)
  replace hb2 := bch hb1 hb2
  replace ho3 := ho3.below hb2
  replace ho2 := ho2.below hb2
  replace hb := bch hb hb2
  clear hb2 hb1
  go_wp2_with fail
  refine (fx13 _ _ A3 c2 c3 ho2 ho3).mono ?_
  rintro e w10 ⟨N, nc, rfl, hN, hb2⟩
  replace ho3 := ho3.below hb2
  replace ho2 := ho2.below hb2
  replace hb := bch hb hb2
  clear hb2
  go_wp2_with fail
  refine (fx14 _ N nc w10.heap.size (hN.below (one_below _ _)) (by rw [World.cell?_alloc_new]; rfl)).mono ?_
  rintro e w11 ⟨rfl, n1, rfl⟩
  have hb2 := bch (one_below w10 (.cells #[.string ⟨#[98]⟩] 9)) (drewN_below _ n1)
  replace ho3 := ho3.below hb2
  replace ho2 := ho2.below hb2
  replace hb := bch hb hb2
  clear hb2 hN
  generalize (w10.alloc (.cells #[.string ⟨#[98]⟩] 9)).drewN n1 = w12 at ho2 ho3 hb ⊢
  go_wp2_with fail
  refine (fx15 _ A3 A3 c3 c3 ho3 ho3).mono ?_
  rintro e w13 ⟨rfl, n2, rfl⟩
  replace ho3 := ho3.below (drewN_below _ n2)
  replace ho2 := ho2.below (drewN_below _ n2)
  replace hb := bch hb (drewN_below _ n2)
  generalize w12.drewN n2 = w14 at ho2 ho3 hb ⊢
  go_wp2_with fail
  refine (fx16 _ _ A3 c2 c3 ho2 ho3).mono ?_
  rintro e w15 ⟨rfl, n3, rfl⟩
  go_wp2
  go_ret
  exact ⟨rfl, bch hb (drewN_below _ n3)⟩
end Go.Proofs.Ytdaekfigpkogbaa
