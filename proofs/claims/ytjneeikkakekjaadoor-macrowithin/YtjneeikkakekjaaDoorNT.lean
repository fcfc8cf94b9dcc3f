/-
  The contract of the laws' fixed calls: they answer true; old memory stays.
-/
import Derived.Test.YtjneeikkakekjaaDoorNS
import Derived.Test.YtjneeikkakekjaaDoorNR
import Derived.Test.YtjneeikkakekjaaDoorF
namespace Go.Proofs.YtjneeikkakekjaaDoor
open Go.RowKit

theorem lit_read (w : World) (ts : List Tok) (t : TypeId) : Rd (w.alloc (.cells (fcells ts).toArray t)) (some ⟨w.heap.size, 0, none⟩) ts := fun _ => by
  refine ⟨w.heap.size, 0, rfl, fun i f hi => ?_⟩
  obtain ⟨h1, h2⟩ := fcells_at ts i f hi
  have hb := heap_alloc_new w (.cells (fcells ts).toArray t)
  rw [Nat.zero_add]
  exact ⟨(cell_of hb _).trans (by simpa using h1), (cell_of hb _).trans (by simpa using h2)⟩
theorem same_lit (A : Option Addr) (c d n : Nat) (ts : List Tok) (w : World) (o : Array Value) (ho : o = (fcells ts).toArray) (hn : n = ts.length) (hr : Rd w A ts) (hl : ts.length ≤ 1000) :
    Calls Tryd.prog 20 #[.slice A ts.length c, .slice (some ⟨w.heap.size, 0, none⟩) n d] (w.alloc (.cells o 81)) fun e w' => e = .returned (.bool true) ∧ Below w.heap.size w w' := by
  subst ho hn
  refine (same_any A _ c d ts ts _ (hr.alloc _) (lit_read w ts 81) (by omega) (by omega)).mono ?_
  rintro e w' ⟨rfl, n, rfl⟩
  exact ⟨ret_bool (decide_eq_true rfl), (one_below w _).trans ⟨rfl, rfl, rfl, Nat.le_refl _, fun _ _ => rfl⟩⟩
theorem lex_lit (s : By) (ts : List Tok) (w : World) (hs : s.length ≤ 1000) (h : toks s = ts) : Calls Tryd.prog 34 #[.string ⟨s.toArray⟩] w (Res 41 w ts) := by
  have := lex_any ⟨s.toArray⟩ w (by show s.length ≤ _; omega)
  rw [show (⟨s.toArray⟩ : ByteArray).data.toList = s from rfl, h] at this
  exact this
theorem grp_lit (ts : List Tok) (x p e : Int) (h : grpE ts x = (p, e)) (A : Option Addr) (c : Nat) (w : World) (hr : Rd w A ts) (hl : ts.length ≤ 100) (hcap : ts.length ≤ c) (hc63 : c ≤ 9223372036854775807) :
    Calls Tryd.prog 10 #[.slice A ts.length c, .int .i64 x] w fun e' w' => e' = .returned (.tuple #[.int .i64 p, .int .i64 e]) ∧ Below w.heap.size w w' := by
  have := group_any A c ts x w hr (by omega) hcap hc63
  rw [h] at this; exact this
theorem args_lit (ts : List Tok) (x y p e : Int) (ll : List (List Tok)) (h : argsE ts x y = (ll, p, e)) (A : Option Addr) (c : Nat) (w : World) (hr : Rd w A ts) (hl : ts.length ≤ 100) (hcap : ts.length ≤ c) (hc63 : c ≤ 9223372036854775807) :
    Calls Tryd.prog 13 #[.slice A ts.length c, .int .i64 x, .int .i64 y] w fun e' w' => ∃ A' c', e' = .returned (.tuple #[.slice A' ll.length c', .int .i64 p, .int .i64 e]) ∧ OwnL 22 w' w.heap.size A' c' ll ∧ Below w.heap.size w w' := by
  have := args_any A c ts x y w hr (by omega) hcap hc63
  rw [h] at this; exact this
theorem word_lit (ts : List Tok) (s : By) (b : Bool) (h : wordE ts = (s, b)) (A : Option Addr) (c : Nat) (w : World) (hr : Rd w A ts) (hl : ts.length ≤ 100) :
    Calls Tryd.prog 18 #[.slice A ts.length c] w fun e w' => e = .returned (.tuple #[.string ⟨s.toArray⟩, .bool b]) ∧ Below w.heap.size w w' := by
  have := word7_any A c ts w hr (by omega)
  rw [h] at this; exact this
theorem put_lit (fs : List Ml) (z : By) (p : Int) (body : List Tok) (r : List Ml) (v : Int) (h : putR fs (z, p, body) = r ∧ putE fs (z, p, body) = v) (A : Option Addr) (c : Nat) (B : Option Addr) (d : Nat) (w : World) (hr : RdM w A fs) (hm : Rd w B body)
    (hc : fs.length ≤ 900) (hcap : fs.length ≤ c) (hc63 : c ≤ 9223372036854775807) (hs : Hid (Sorted fs)) (hz : Hid (Bod fs)) (hmz : body.length ≤ 200000) (hnl : z.length ≤ 1000) :
    Calls Tryd.prog 27 #[.slice A fs.length c, .agg #[.string ⟨z.toArray⟩, .int .i64 p, .slice B body.length d]] w (ResM2 55 w r v) := by
  have := put7_any A c fs (z, p, body) B d w hr hm hc hcap hc63 hs hz hmz (by show z.length ≤ _; omega)
  rw [h.1, h.2] at this; exact this
def fxL : List Tok := [(5, []), (1, [97]), (5, []), (1, [98]), (6, []), (6, []), (2, []), (1, [99])]
def fxM : List Tok := [(2, []), (5, []), (1, [120]), (6, []), (5, []), (1, [121]), (2, []), (1, [122]), (6, [])]
def fxF : List Tok := [(7, [50]), (7, [49]), (7, [51])]
def fxB : List Tok := [(1, [98]), (1, [97])]
def fxX : List Tok := [(1, [120])]
def fxY : List Tok := [(1, [120]), (2, []), (1, [121])]
def fxT : List Tok := toks [32, 97, 123, 98, 125, 32, 10, 10, 32, 99, 32]
def fxP : List Ml := [([120], 1, fxB)]
def fxA : List (List Tok) := [[(1, [97])], [(1, [98])]]
theorem fxL_is : toks [123, 97, 123, 98, 125, 125, 32, 99] = fxL := by decide +kernel
theorem fxM_is : toks [32, 123, 120, 125, 123, 121, 32, 122, 125] = fxM := by decide +kernel
theorem fxF_is : toks [35, 50, 35, 49, 35, 51] = fxF := by decide +kernel
theorem fxX_is : toks [120] = fxX := by decide +kernel
theorem fxY_is : toks [120, 32, 121] = fxY := by decide +kernel
theorem fxL_a : grpE fxL 0 = (6, 0) := by decide +kernel
theorem fxL_b : grpE fxL 1 = (0, 10) := by decide +kernel
theorem fxL_c : grpE fxL (-1) = (0, 1) := by decide +kernel
theorem fxL_d : grpE (fxL.take 4) 0 = (0, 10) := by decide +kernel
theorem fxM_a : argsE fxM 0 2 = ([[(1, [120])], [(1, [121]), (2, []), (1, [122])]], 9, 0) := by decide +kernel
theorem fxM_b : argsE fxM 0 3 = ([], 0, 10) := by decide +kernel
theorem fxM_c : argsE fxM 1 0 = ([], 1, 0) := by decide +kernel
theorem fxF_a : fillL fxF fxA = fxB := by decide +kernel
theorem fxX_a : wordE fxX = ([120], true) := by decide +kernel
theorem fxY_a : wordE fxY = ([], false) := by decide +kernel
theorem fxT_a : flatL fxT = [97, 98, 32, 99] := by decide +kernel
theorem fxT_m : Mild fxT ∧ fxT.length ≤ 100 := by
  have h : (fxT.all fun t => decide (t.2.length ≤ 2000)) = true ∧ fxT.length ≤ 100 := by decide +kernel
  exact ⟨fun t ht => of_decide_eq_true (List.all_eq_true.1 h.1 t ht), h.2⟩
theorem fxP_a : putR [] ([120], 1, fxB) = fxP ∧ putE [] ([120], 1, fxB) = 0 := by decide +kernel
theorem fxP_b : putR fxP ([120, 49], 0, []) = [] ∧ putE fxP ([120, 49], 0, []) = 2 := by decide +kernel
theorem fxP_c : putR fxP ([120], 10, []) = [] ∧ putE fxP ([120], 10, []) = 1 := by decide +kernel
theorem fxP_g : getM fxP [120] = ([120], 1, fxB) ∧ hasL fxP [120] = true := by decide +kernel
theorem fxP_d : dropL fxP [120] = [] ∧ dropL fxP [121] = fxP := by decide +kernel
theorem fxP_s : Sorted fxP ∧ Bod fxP := by
  refine ⟨List.pairwise_singleton _ _, fun m hm => ?_⟩
  simp only [fxP, List.mem_singleton] at hm
  subst hm
  show fxB.length ≤ _
  simp [fxB]
theorem fill_world (w : World) (A : Option Addr) (c : Nat) (hr : Rd w A fxF) :
    Calls Tryd.prog 21 #[.slice A fxF.length c, .slice (some ⟨w.heap.size + 1 + 1, 0, none⟩) 2 2] (((w.alloc (.cells #[.int .i64 1, .string ⟨#[97]⟩] 41)).alloc (.cells #[.int .i64 1, .string ⟨#[98]⟩] 41)).alloc (.cells #[.slice (some ⟨w.heap.size, 0, none⟩) 1 1, .slice (some ⟨w.heap.size + 1, 0, none⟩) 1 1] 22)) (Res 41 w fxB) := by
  have b1 := one_below w (.cells #[.int .i64 1, .string ⟨#[97]⟩] 41)
  have r1 : Rd (w.alloc (.cells #[.int .i64 1, .string ⟨#[97]⟩] 41)) (some ⟨w.heap.size, 0, none⟩) [(1, [97])] := one_read (new_fst _ _ _ _) (new_snd _ _ _ _)
  have s1 : (w.alloc (.cells #[.int .i64 1, .string ⟨#[97]⟩] 41)).heap.size = w.heap.size + 1 := by simp
  generalize w.alloc (.cells #[.int .i64 1, .string ⟨#[97]⟩] 41) = w1 at *
  have b2 := one_below w1 (.cells #[.int .i64 1, .string ⟨#[98]⟩] 41)
  have r2 : Rd (w1.alloc (.cells #[.int .i64 1, .string ⟨#[98]⟩] 41)) (some ⟨w1.heap.size, 0, none⟩) [(1, [98])] := one_read (new_fst _ _ _ _) (new_snd _ _ _ _)
  have s2 : (w1.alloc (.cells #[.int .i64 1, .string ⟨#[98]⟩] 41)).heap.size = w.heap.size + 1 + 1 := by simp [s1]
  rw [s1] at r2
  generalize w1.alloc (.cells #[.int .i64 1, .string ⟨#[98]⟩] 41) = w2 at *
  have b3 := one_below w2 (.cells #[.slice (some ⟨w.heap.size, 0, none⟩) 1 1, .slice (some ⟨w.heap.size + 1, 0, none⟩) 1 1] 22)
  have hl : RdL (w2.alloc (.cells #[.slice (some ⟨w.heap.size, 0, none⟩) 1 1, .slice (some ⟨w.heap.size + 1, 0, none⟩) 1 1] 22)) (some ⟨w2.heap.size, 0, none⟩) fxA := fun _ => by
    refine ⟨w2.heap.size, 0, rfl, fun i l hi => ?_⟩
    match i, hi with
    | 0, hi => simp [fxA] at hi; subst hi; exact ⟨_, 1, new_fst _ _ _ _, (r1.below b2).below b3⟩
    | 1, hi => simp [fxA] at hi; subst hi; exact ⟨_, 1, new_snd _ _ _ _, r2.below b3⟩
    | i + 2, hi => simp [fxA] at hi
  rw [← s2]
  have hb := bch b1 (bch b2 b3)
  have := fill_any A (some ⟨w2.heap.size, 0, none⟩) c 2 fxF fxA _ (hr.below hb) hl (by simp [fxF]) (by simp [fxA]) (Lib.hid (by
    intro t ht
    simp only [fxF, List.mem_cons, List.not_mem_nil, or_false] at ht
    rcases ht with rfl | rfl | rfl <;> simp)) (by rw [fxF_a]; simp [fxB])
  rw [fxF_a] at this
  exact this.mono fun _ _ h => h.from hb
set_option maxRecDepth 100000 in
set_option maxHeartbeats 8000000 in
theorem fixed_any (w : World) : Calls Tryd.prog 17 #[] w fun e w' => e = .returned (.bool true) ∧ Below w.heap.size w w' := by
  have LL := Lib.hid (fun w => lex_lit _ _ w (by simp) fxL_is)
  have LM := Lib.hid (fun w => lex_lit _ _ w (by simp) fxM_is)
  have LF := Lib.hid (fun w => lex_lit _ _ w (by simp) fxF_is)
  have LX := Lib.hid (fun w => lex_lit _ _ w (by simp) fxX_is)
  have LY := Lib.hid (fun w => lex_lit _ _ w (by simp) fxY_is)
  have LT := Lib.hid (fun w => lex_lit [32, 97, 123, 98, 125, 32, 10, 10, 32, 99, 32] fxT w (by simp) rfl)
  have GA := Lib.hid (grp_lit _ _ _ _ fxL_a)
  have GB := Lib.hid (grp_lit _ _ _ _ fxL_b)
  have GC := Lib.hid (grp_lit _ _ _ _ fxL_c)
  have GD := Lib.hid (grp_lit _ _ _ _ fxL_d)
  have AA := Lib.hid (args_lit _ _ _ _ _ _ fxM_a)
  have AB := Lib.hid (args_lit _ _ _ _ _ _ fxM_b)
  have AC := Lib.hid (args_lit _ _ _ _ _ _ fxM_c)
  have FW := Lib.hid fill_world
  have WX := Lib.hid (word_lit _ _ _ fxX_a)
  have WY := Lib.hid (word_lit _ _ _ fxY_a)
  have PA := Lib.hid (put_lit _ _ _ _ _ _ fxP_a)
  have PB := Lib.hid (put_lit _ _ _ _ _ _ fxP_b)
  have PC := Lib.hid (put_lit _ _ _ _ _ _ fxP_c)
  have EB := Lib.hid (show #[Value.int .i64 1, .string ⟨#[98]⟩, .int .i64 1, .string ⟨#[97]⟩] = (fcells fxB).toArray ∧ 2 = fxB.length from ⟨rfl, rfl⟩)
  have SP := Lib.hid fxP_s
  have PG := Lib.hid (fun (A : Option Addr) (c : Nat) (w : World) (hr : RdM w A fxP) => (fxP_g.1 ▸ fxP_g.2 ▸ get7_any A c fxP [120] w hr (by simp [fxP]) (Lib.hid fxP_s.1) (Lib.hid fxP_s.2) : Calls Tryd.prog 30 #[.slice A fxP.length c, .string ⟨([120] : By).toArray⟩] w (GetPost w ([120], 1, fxB) true)))
  have DA := Lib.hid (fun (A : Option Addr) (c : Nat) (w : World) (hr : RdM w A fxP) (h1 : fxP.length ≤ c) (h2 : c ≤ 9223372036854775807) => (fxP_d.1 ▸ drop7_any A c fxP [120] w hr (by simp [fxP]) h1 h2 (Lib.hid fxP_s.1) (Lib.hid fxP_s.2) : Calls Tryd.prog 25 #[.slice A fxP.length c, .string ⟨([120] : By).toArray⟩] w (ResM 55 w [])))
  have DB := Lib.hid (fun (A : Option Addr) (c : Nat) (w : World) (hr : RdM w A fxP) (h1 : fxP.length ≤ c) (h2 : c ≤ 9223372036854775807) => (by have := drop7_any A c fxP [121] w hr (by simp [fxP]) h1 h2 (Lib.hid fxP_s.1) (Lib.hid fxP_s.2); rw [fxP_d.2] at this; exact this : Calls Tryd.prog 25 #[.slice A fxP.length c, .string ⟨([121] : By).toArray⟩] w (ResM 55 w fxP)))
  have FT := Lib.hid (fun (A : Option Addr) (c : Nat) (w : World) (hr : Rd w A fxT) => (by have := flat_any A c fxT w hr (Lib.hid fxT_m.1) (by have := fxT_m.2; omega); rw [fxT_a] at this; exact this : Calls Tryd.prog 23 #[.slice A fxT.length c] w fun e w' => e = .returned (.string ⟨([97, 98, 32, 99] : By).toArray⟩) ∧ Below w.heap.size w w'))
  have hll : fxL.length ≤ 100 := by simp [fxL]
  have hlm : fxM.length ≤ 100 := by simp [fxM]
  have hlx : fxX.length ≤ 100 := by simp [fxX]
  have hly : fxY.length ≤ 100 := by simp [fxY]
  have hlb : fxB.length ≤ 100 := by simp [fxB]
  have hlp : fxP.length ≤ 100 := by simp [fxP]
  have l8 : 4 ≤ fxL.length := by simp [fxL]
  have l4 : Hid ((fxL.take 4).length = 4) := Lib.hid (by simp [fxL])
  have q9 : ((9 : Int) == (fxM.length : Int)) = true := by simp [fxM]
  have qp : ((fxP.length : Int) == 1) = true := by simp [fxP]
  have hmin : ∀ ts t w, (Builtin.min_ ts t #[.int .i64 4, .int .i64 fxL.length]).run Tryd.prog w = .ok (.int .i64 ((4 : Nat) : Int)) w := fun ts t w => min_run 4 fxL.length 4 (by omega) ts t w
  have hcut := fun (A : Option Addr) (c : Nat) (hc : 4 ≤ c) (w : World) => tok_to (A := A) (n := fxL.length) (c := c) (h := 4) hc w
  rw [← l4.out] at hcut hmin
  have RT0 := Lib.hid (fun (A : Option Addr) (w : World) (h : Rd w A fxL) => h.take 4)
  generalize fxL.take 4 = t4 at *
  generalize fxL = tl at *
  generalize fxM = tm at *
  generalize fxF = tf at *
  generalize fxX = tx at *
  generalize fxY = ty at *
  generalize fxT = tt at *
  generalize fxB = tb at *
  generalize fxP = tp at *
  go_enter Tryd.func17, Tryd.ntmps17
  go_wp2_with fail
  refine (LL.out _).mono ?_
  rintro e w1 ⟨A1, c1, rfl, ho, hb⟩
  have HB := Lib.hid hb
  have RL := Lib.hid ho.rd
  have kl := ho.cap
  clear hb ho LL
  obtain ⟨kl1, kl2, _⟩ := kl
  go_wp2_with fail
  refine (LM.out _).mono ?_
  rintro e w2 ⟨A2, c2, rfl, ho, hb⟩
  replace RL := Lib.hid (RL.out.below hb)
  replace HB := Lib.hid (bch HB.out hb)
  have RM := Lib.hid ho.rd
  have km := ho.cap
  clear hb ho LM
  obtain ⟨km1, km2, _⟩ := km
  go_wp2_with fail
  refine (GA.out A1 c1 _ RL.out hll kl1 kl2).mono ?_
  rintro e w3 ⟨rfl, hb⟩
  replace RL := Lib.hid (RL.out.below hb)
  replace RM := Lib.hid (RM.out.below hb)
  replace HB := Lib.hid (bch HB.out hb)
  clear hb GA
  go_wp2_with fail
  refine (GB.out A1 c1 _ RL.out hll kl1 kl2).mono ?_
  rintro e w4 ⟨rfl, hb⟩
  replace RL := Lib.hid (RL.out.below hb)
  replace RM := Lib.hid (RM.out.below hb)
  replace HB := Lib.hid (bch HB.out hb)
  clear hb GB
  go_wp2_with fail
  refine (GC.out A1 c1 _ RL.out hll kl1 kl2).mono ?_
  rintro e w5 ⟨rfl, hb⟩
  replace RL := Lib.hid (RL.out.below hb)
  replace RM := Lib.hid (RM.out.below hb)
  replace HB := Lib.hid (bch HB.out hb)
  clear hb GC
  have hct := hcut A1 c1 (by rw [l4.out]; omega)
  have RT := Lib.hid (RT0.out A1 _ RL.out)
  go_wp2_with fail
  refine (GD.out A1 c1 _ RT.out (by rw [l4.out]; omega) (by rw [l4.out]; omega) kl2).mono ?_
  rintro e w6 ⟨rfl, hb⟩
  replace RM := Lib.hid (RM.out.below hb)
  replace HB := Lib.hid (bch HB.out hb)
  clear hb GD RL RT hct RT0
  go_wp2_with fail
  refine (AA.out A2 c2 _ RM.out hlm km1 km2).mono ?_
  rintro e w7 ⟨A3, c3, rfl, _, hb⟩
  replace RM := Lib.hid (RM.out.below hb)
  replace HB := Lib.hid (bch HB.out hb)
  clear hb AA
  go_wp2_with fail
  refine (AB.out A2 c2 _ RM.out hlm km1 km2).mono ?_
  rintro e w8 ⟨A4, c4, rfl, _, hb⟩
  replace RM := Lib.hid (RM.out.below hb)
  replace HB := Lib.hid (bch HB.out hb)
  clear hb AB
  go_wp2_with fail
  refine (AC.out A2 c2 _ RM.out hlm km1 km2).mono ?_
  rintro e w9 ⟨A5, c5, rfl, _, hb⟩
  replace HB := Lib.hid (bch HB.out hb)
  clear hb AC RM
  go_wp2_with fail
  refine (LF.out _).mono ?_
  rintro e w10 ⟨A6, c6, rfl, ho, hb⟩
  replace HB := Lib.hid (bch HB.out hb)
  have RF := Lib.hid ho.rd
  clear hb ho LF
  go_wp2_with fail
  refine (FW.out _ A6 c6 RF.out).mono ?_
  rintro e w11 ⟨A7, c7, rfl, ho, hb⟩
  replace HB := Lib.hid (bch HB.out hb)
  have RB := Lib.hid ho.rd
  clear hb ho FW RF
  go_wp2_with fail
  refine (LX.out _).mono ?_
  rintro e w12 ⟨A8, c8, rfl, ho, hb⟩
  replace RB := Lib.hid (RB.out.below hb)
  replace HB := Lib.hid (bch HB.out hb)
  have RX := Lib.hid ho.rd
  clear hb ho LX
  go_wp2_with fail
  refine (WX.out A8 c8 _ RX.out hlx).mono ?_
  rintro e w13 ⟨rfl, hb⟩
  replace RB := Lib.hid (RB.out.below hb)
  replace HB := Lib.hid (bch HB.out hb)
  clear hb WX RX
  go_wp2_with fail
  refine (LY.out _).mono ?_
  rintro e w14 ⟨A9, c9, rfl, ho, hb⟩
  replace RB := Lib.hid (RB.out.below hb)
  replace HB := Lib.hid (bch HB.out hb)
  have RY := Lib.hid ho.rd
  clear hb ho LY
  go_wp2_with fail
  refine (WY.out A9 c9 _ RY.out hly).mono ?_
  rintro e w15 ⟨rfl, hb⟩
  replace RB := Lib.hid (RB.out.below hb)
  replace HB := Lib.hid (bch HB.out hb)
  clear hb WY RY
  go_wp2_with fail
  refine (PA.out none 0 A7 c7 _ (RdMF.empty _ _ _) RB.out (by simp) (by simp) (by simp) (Lib.hid Sorted.nil) (Lib.hid (fun m hm => by cases hm)) (by omega) (by simp)).mono ?_
  rintro e w16 ⟨A10, c10, rfl, ho, hb⟩
  replace RB := Lib.hid (RB.out.below hb)
  replace HB := Lib.hid (bch HB.out hb)
  have RP := Lib.hid ho.rd.plain
  have kp := ho.cap
  clear hb ho PA
  obtain ⟨kp1, kp2⟩ := kp
  go_wp2_with fail
  refine (PB.out A10 c10 none 0 _ RP.out (Rd.empty _ _) (by omega) kp1 kp2 (Lib.hid SP.out.1) (Lib.hid SP.out.2) (by simp) (by simp)).mono ?_
  rintro e w17 ⟨A11, c11, rfl, _, hb⟩
  replace RB := Lib.hid (RB.out.below hb)
  replace RP := Lib.hid (RP.out.below hb)
  replace HB := Lib.hid (bch HB.out hb)
  clear hb PB
  go_wp2_with fail
  refine (PC.out A10 c10 none 0 _ RP.out (Rd.empty _ _) (by omega) kp1 kp2 (Lib.hid SP.out.1) (Lib.hid SP.out.2) (by simp) (by simp)).mono ?_
  rintro e w18 ⟨A12, c12, rfl, _, hb⟩
  replace RB := Lib.hid (RB.out.below hb)
  replace RP := Lib.hid (RP.out.below hb)
  replace HB := Lib.hid (bch HB.out hb)
  clear hb PC
  go_wp2_with fail
  refine (PG.out A10 c10 _ RP.out).mono ?_
  rintro e w19 ⟨B13, c13, rfl, _, hb⟩
  replace RB := Lib.hid (RB.out.below hb)
  replace RP := Lib.hid (RP.out.below hb)
  replace HB := Lib.hid (bch HB.out hb)
  clear hb PG
  simp only
  have oG := one_below w19 (.cells #[.string ⟨([120] : By).toArray⟩, .int .i64 1, .slice B13 tb.length c13] 55)
  obtain ⟨qg0, qg1, qg2⟩ := new_three w19 (.string ⟨([120] : By).toArray⟩) (.int .i64 1) (.slice B13 tb.length c13) 55
  replace RB := Lib.hid (RB.out.below oG)
  replace RP := Lib.hid (RP.out.below oG)
  replace HB := Lib.hid (bch HB.out oG)
  have QG := Lib.hid qg1
  clear oG qg0 qg1 qg2
  go_wp2_with fail
  refine (refs_any A7 c7 tb _ RB.out (by omega)).mono ?_
  rintro e w20 ⟨A14, c14, rfl, ho, hb⟩
  replace RP := Lib.hid (RP.out.below hb)
  replace HB := Lib.hid (bch HB.out hb)
  replace QG := Lib.hid (cell_below hb QG.out)
  have RR := Lib.hid ho.rd
  clear hb ho RB
  go_wp2_with fail
  refine (same_lit A14 c14 2 2 tb w20 _ EB.out.1 EB.out.2 RR.out (by omega)).mono ?_
  rintro e w21 ⟨rfl, hb⟩
  replace RP := Lib.hid (RP.out.below hb)
  replace HB := Lib.hid (bch HB.out hb)
  replace QG := Lib.hid (cell_below hb QG.out)
  clear hb EB RR
  go_wp2_with fail
  refine (LT.out _).mono ?_
  rintro e w22 ⟨A15, c15, rfl, ho, hb⟩
  replace RP := Lib.hid (RP.out.below hb)
  replace HB := Lib.hid (bch HB.out hb)
  have RT2 := Lib.hid ho.rd
  replace QG := Lib.hid (cell_below hb QG.out)
  clear hb ho LT
  go_wp2_with fail
  refine (FT.out A15 c15 _ RT2.out).mono ?_
  rintro e w23 ⟨rfl, hb⟩
  replace RP := Lib.hid (RP.out.below hb)
  replace HB := Lib.hid (bch HB.out hb)
  replace QG := Lib.hid (cell_below hb QG.out)
  clear hb FT RT2
  have qgc := QG.out
  go_wp2_with fail
  refine (DA.out A10 c10 _ RP.out kp1 kp2).mono ?_
  rintro e w24 ⟨A16, c16, rfl, _, hb⟩
  replace RP := Lib.hid (RP.out.below hb)
  replace HB := Lib.hid (bch HB.out hb)
  clear hb DA qgc QG
  go_wp2_with fail
  refine (DB.out A10 c10 _ RP.out kp1 kp2).mono ?_
  rintro e w25 ⟨A17, c17, rfl, _, hb⟩
  replace HB := Lib.hid (bch HB.out hb)
  clear hb DB RP
  go_wp2
  go_ret
  exact ⟨rfl, HB.out⟩
end Go.Proofs.YtjneeikkakekjaaDoor
