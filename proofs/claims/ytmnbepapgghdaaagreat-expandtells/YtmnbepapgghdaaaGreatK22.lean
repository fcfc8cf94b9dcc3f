/-
  Contracts of files.Get, files.Drop and files.Put over maps: as the plain functions say; lists of the call's own; old memory stays.
  Contracts of the document's answer's Drop and Put: as the plain functions say; lists of the call's own; old memory stays.
  Contracts of the law's Cut and of the document's answer's Map.
-/
import Derived.Test.YtmnbepapgghdaaaGreatK21
import Derived.StillTailTactics
namespace Go.Proofs.YtmnbepapgghdaaaGreat.Fl
open Go.RowKit

/-- A list of slices: where each lies, its capacity, what it reads as. -/
abbrev Pc := Option Addr × Nat × List Fl
theorem one_read {w : World} {b : Nat} {f : Fl} (h1 : w.cell? ⟨b, 0, none⟩ = some (.string ⟨f.1.toArray⟩)) (h2 : w.cell? ⟨b, 1, none⟩ = some (.string ⟨f.2.toArray⟩)) : Rd w (some ⟨b, 0, none⟩) [f] := fun _ =>
  ⟨b, 0, rfl, fun i g hi => by
    match i, hi with
    | 0, hi => simp at hi; subst hi; exact ⟨h1, h2⟩
    | i + 1, hi => simp at hi⟩
/-- A cut of a slice from k on: where it lies. -/
def cutA (A : Option Addr) (c k : Nat) : Option Addr := if c = k then A else A.map (·.add (k * 2))
theorem Rd.cut {w : World} {A : Option Addr} {fs : List Fl} (h : Rd w A fs) {k c : Nat} (hk : k ≤ fs.length) (hc : fs.length ≤ c) : Rd w (cutA A c k) (fs.drop k) := fun h0 => by
  rw [List.length_drop] at h0
  obtain ⟨b, o, rfl, hcell⟩ := h (by omega)
  unfold cutA
  rw [if_neg (by omega)]
  refine ⟨b, o + k * 2, by simp [add_lit], fun i f hi => ?_⟩
  rw [List.getElem?_drop] at hi
  have := hcell _ f hi
  rw [show o + k * 2 + i * 2 = o + (k + i) * 2 by omega]
  exact this


theorem putE_wr {fs : List Fl} {f : Fl} (h : wrE f ≠ 0) : putE fs f = wrE f := by unfold putE; rw [if_pos h]
theorem putE_full {fs : List Fl} {f : Fl} (h : wrE f = 0) (k : hasL fs f.1 = false) (l : 32 ≤ fs.length) : putE fs f = 3 := by unfold putE; rw [if_neg (by simp [h]), if_pos ⟨k, l⟩]
theorem putR_no {fs : List Fl} {f : Fl} (h : putE fs f ≠ 0) : putR fs f = [] := by unfold putR; rw [if_neg h]
theorem putR_yes {fs : List Fl} {f : Fl} (h : putE fs f = 0) : putR fs f = putL fs f := by unfold putR; rw [if_pos h]



def Res2 (w : World) (fs : List Fl) (v : Value) (e : Ending) (w' : World) : Prop := ∃ A c, e = .returned (.tuple #[.slice A fs.length c, v]) ∧ Own w' w.heap.size A c fs ∧ Below w.heap.size w w'
theorem Res2.from {w w1 : World} {fs : List Fl} {v : Value} {e : Ending} {w' : World} (h : Res2 w1 fs v e w') (hb : Below w.heap.size w w1) : Res2 w fs v e w' := by
  obtain ⟨A, c, he, ho, hb1⟩ := h
  exact ⟨A, c, he, ho.mono hb.size, bch hb hb1⟩
theorem below_drew (w : World) : Below w.heap.size w w.drew := ⟨rfl, rfl, rfl, Nat.le_refl _, fun _ _ => rfl⟩

theorem get_yes {fs : List Fl} {n : List UInt8} {f : Fl} (hs : Sorted fs) (h : hasL fs n = true) (hf : fs[plc fs n]? = some f) : f.1 = n ∧ txtL fs n = f.2 := by
  have hk : plc fs n < fs.length := by
    rcases Nat.lt_or_ge (plc fs n) fs.length with q | q
    · exact q
    · rw [List.getElem?_eq_none q] at hf; cases hf
  have e := get_of hf hk
  have h1 := hasL_plc hs hk
  rw [h, e] at h1
  have h2 : f.1 = n := by simpa using h1.symm
  refine ⟨h2, ?_⟩
  unfold txtL
  rw [getL_plc hs hk (by rw [e]; exact h2), e]; rfl
theorem has_lt {fs : List Fl} {n : List UInt8} (h : hasL fs n = true) : plc fs n < fs.length := by
  rcases Nat.lt_or_ge (plc fs n) fs.length with q | q
  · exact q
  · rw [hasL_plc_end (Nat.le_antisymm (plc_le fs n) q)] at h; cases h
theorem txt_no {fs : List Fl} {n : List UInt8} (h : hasL fs n = false) : txtL fs n = [] := by
  rw [hasL_get] at h
  unfold txtL
  cases k : getL fs n with
  | none => rfl
  | some t => rw [k] at h; cases h

set_option maxHeartbeats 1000000 in
theorem get_any (A : Option Addr) (c : Nat) (fs : List Fl) (n : List UInt8) (w : World) (hr : Rd w A fs) (hc : fs.length ≤ 100000) (hs : Hid (Sorted fs)) :
    Calls Tryz.prog 49 #[.slice A fs.length c, .string ⟨n.toArray⟩] w fun e w' => e = .returned (.tuple #[.string ⟨(txtL fs n).toArray⟩, .bool (hasL fs n)]) ∧ Below w.heap.size w w' := by
  have HC := Lib.hid (find_any A c fs n w hr hc hs)
  cases hh : hasL fs n
  · have HH := Lib.hid hh
    clear hh
    go_enter Tryz.func49, Tryz.ntmps49
    go_wp2_with fail
    refine HC.out.mono ?_
    rw [HH.out]
    rintro e w1 ⟨rfl, hb⟩
    go_wp2
    go_ret2
    exact ⟨ret_two (str_eq (txt_no HH.out).symm) rfl, hb⟩
  · have hlt := has_lt hh
    obtain ⟨f, hf⟩ : ∃ f, fs[plc fs n]? = some f := ⟨_, List.getElem?_eq_getElem hlt⟩
    have HT := Lib.hid (get_yes hs.out hh hf).2
    have HH := Lib.hid hh
    have HF := Lib.hid hf
    clear hh hf
    obtain ⟨k, hk⟩ : ∃ k, k = plc fs n := ⟨_, rfl⟩
    rw [← hk] at HC HF hlt
    clear hk
    obtain ⟨b, o, rfl, hcell⟩ := hr (by omega)
    have c2 := (hcell k f HF.out).2
    clear hcell hr
    have i1 : (k : Int) < (fs.length : Int) := by omega
    go_enter Tryz.func49, Tryz.ntmps49
    go_wp2_with fail
    refine HC.out.mono ?_
    rw [HH.out]
    rintro e w1 ⟨rfl, hb⟩
    have c3 := cell_below hb c2
    go_wp2
    go_ret2
    exact ⟨ret_two (str_eq HT.out.symm) rfl, hb⟩

/-- The two cuts of a slice. -/
theorem elem22 : Tryz.prog.elem 22 = 45 := by kernel_rfl
theorem size25 (w : World) : (sizeOf 45).run Tryz.prog w = .ok 2 w := by
  obtain ⟨i0, hi, hz0, hz1, hz2⟩ := info_parts Tryz.info45
  simp [sizeOf, typeInfo, hi, hz1]
theorem cut_to (A : Option Addr) (n c k : Nat) (hk : k ≤ c) (w : World) : (Instr.slice 22 (.slice A n c) none (some (.int .i64 k)) none).run Tryz.prog w = .ok (.slice A k c) w := by
  rw [run_slice_h (P := Tryz.prog) w 22 A n c (by kernel_rfl) .i64 k (by omega) (by omega), elem22, size25]
  simp [sliced, Result.andThen]
  cases A <;> simp [Addr.add]
theorem cut_from (A : Option Addr) (n c k : Nat) (hk : k ≤ n) (w : World) : (Instr.slice 22 (.slice A n c) (some (.int .i64 k)) none none).run Tryz.prog w = .ok (.slice (cutA A c k) (n - k) (c - k)) w := by
  rw [run_slice_l (P := Tryz.prog) w 22 A n c (by kernel_rfl) .i64 k (by omega) (by omega), elem22, size25]
  simp [sliced, Result.andThen, cutA]

end Go.Proofs.YtmnbepapgghdaaaGreat.Fl

namespace Go.Proofs.YtmnbepapgghdaaaGreat.Fl
open Go.RowKit

theorem own_empty (w : World) : Own (w.alloc (.cells #[] 45)) w.heap.size (some ⟨w.heap.size, 0, none⟩) 0 [] := World.ownsRow_lit w #[] 0 (Nat.le_refl _) (by unfold maxLen; omega) (by simp)
theorem one_new (w : World) (f : Fl) : Rd (w.alloc (.cells #[.string ⟨f.1.toArray⟩, .string ⟨f.2.toArray⟩] 45)) (some ⟨w.heap.size, 0, none⟩) [f] := one_read (new_fst _ _ _ _) (new_snd _ _ _ _)
theorem drop_keep {fs : List Fl} {n : List UInt8} {k : Nat} {f : Fl} (hf : fs[k]? = some f) (h : (f.1 == n) = false) : dropL (fs.take (k + 1)) n = dropL (fs.take k) n ++ [f] := by
  rw [at_take hf]; unfold dropL; rw [List.filter_append]; simp [h]
theorem drop_skip {fs : List Fl} {n : List UInt8} {k : Nat} {f : Fl} (hf : fs[k]? = some f) (h : (f.1 == n) = true) : dropL (fs.take (k + 1)) n = dropL (fs.take k) n := by
  rw [at_take hf]; unfold dropL; rw [List.filter_append]; simp [h]
theorem ret_drop {A : Option Addr} {n c : Nat} {a b : Bool} (h : a = b) : Ending.returned (.tuple #[.slice A n c, .bool a]) = .returned (.tuple #[.slice A n c, .bool b]) := by rw [h]

set_option maxRecDepth 100000 in
set_option maxHeartbeats 1000000 in
theorem rdrop_any (A : Option Addr) (c : Nat) (fs : List Fl) (n : List UInt8) (w : World) (hr : Rd w A fs) (hc : fs.length ≤ 100000) :
    Calls Tryz.prog 34 #[.slice A fs.length c, .string ⟨n.toArray⟩] w (Res2 w (dropL fs n) (.bool (hasL fs n))) := by
  have ho0 := own_empty w
  have hb0 := one_below w (.cells #[] 45)
  go_enter Tryz.func34, Tryz.ntmps34
  go_wp2_with fail
  go_loopw [6, 7] (fun v i wr => ∃ (k : Nat) (A : Option Addr) (c : Nat) (xs : List Fl), k ≤ fs.length ∧ i = .int .i64 k ∧ v = .slice A xs.length c ∧ xs = dropL (fs.take k) n ∧ Own wr w.heap.size A c xs ∧ Below w.heap.size w wr) (fun _ i _ => fs.length - (intOf i).toNat)
  case atStart => exact ⟨0, _, 0, [], Nat.zero_le _, rfl, rfl, rfl, ho0, hb0⟩
  case round =>
    obtain ⟨k, B, d, xs, hk, rfl, rfl, hx, hown, hb⟩ := hrel
    have hxl : xs.length ≤ fs.length := by have := dropL_len (fs.take k) n; rw [← hx] at this; simp at this; omega
    have HX := Lib.hid hx
    clear hx ho0 hb0
    by_cases hlt : k < fs.length
    · have hrw := hr.below hb
      obtain ⟨b, o, rfl, hcell⟩ := hrw (by omega)
      obtain ⟨f, hf⟩ : ∃ f, fs[k]? = some f := ⟨_, List.getElem?_eq_getElem hlt⟩
      obtain ⟨c1, c2⟩ := hcell k f hf
      have HF := Lib.hid hf
      clear hf hcell hrw
      cases hn : f.1 == n
      · have HN := Lib.hid hn
        go_wp2_with (at_builtin; refine wpList_append_rd _ rfl _ _ rfl w.heap.size _ xs rfl (hown.alloc _) (some ⟨wr.heap.size, 0, none⟩) 1 [f] rfl (one_new wr f) (by simp; omega) (by have := hb.size; simp; omega) ?_; intro A1 c1' w2 hown2 hb2)
        go_roundw
        case rel => exact ⟨k + 1, A1, c1', xs ++ [f], by omega, by go_num, by simp, by rw [drop_keep HF.out HN.out, HX.out], hown2, (hb.alloc hb.size _).trans hb2⟩
        case measure => simp [intOf]; omega
      · have HN := Lib.hid hn
        go_wp2
        go_roundw
        case rel => exact ⟨k + 1, B, d, xs, by omega, by go_num, rfl, by rw [drop_skip HF.out HN.out, HX.out], hown, hb⟩
        case measure => simp [intOf]; omega
    · have e := HX.out
      rw [List.take_of_length_le (by omega)] at e
      have HE := Lib.hid e
      clear e
      go_wp2
      go_ret2
      have e := HE.out
      subst e
      exact ⟨B, d, ret_drop (dropL_lt fs n), hown, hb⟩

theorem take_plc {fs : List Fl} {n : List UInt8} {k : Nat} (h : ∀ i (q : i < fs.length), i < k → Op.bytesLess fs[i].1 n = true) (hk : k ≤ fs.length) (hs : k = fs.length ∨ ∃ f, fs[k]? = some f ∧ Op.bytesLess f.1 n = false) : plc fs n = k := by
  have hl := plc_le fs n
  unfold plc at *
  clear hl
  induction fs generalizing k with
  | nil => simp at hk; simp [hk]
  | cons f r ih =>
    rw [List.takeWhile_cons]
    cases k with
    | zero =>
      rcases hs with hs | ⟨g, hg, hb⟩
      · simp at hs
      · simp at hg; subst hg; simp [hb]
    | succ j =>
      have h0 := h 0 (by simp) (by omega)
      simp only [List.getElem_cons_zero] at h0
      rw [if_pos h0, List.length_cons]
      congr 1
      refine ih (fun i q hi => by have := h (i + 1) (by simpa using q) (by omega); rwa [List.getElem_cons_succ] at this) (by simpa using hk) ?_
      rcases hs with hs | ⟨g, hg, hb⟩
      · left; simpa using hs
      · right; exact ⟨g, by simpa using hg, hb⟩
theorem put_shape (fs : List Fl) (f : Fl) : putL fs f = (dropL fs f.1).take (plc (dropL fs f.1) f.1) ++ [f] ++ (dropL fs f.1).drop (plc (dropL fs f.1) f.1) := by
  unfold putL
  rw [takeWhile_plc, dropWhile_plc]; simp
theorem lt_step {fs : List Fl} {n : List UInt8} {k : Nat} {f : Fl} (hf : fs[k]? = some f) (hl : Op.bytesLess f.1 n = true) (h : ∀ i (q : i < fs.length), i < k → Op.bytesLess fs[i].1 n = true) : ∀ i (q : i < fs.length), i < k + 1 → Op.bytesLess fs[i].1 n = true := fun i q hi => by
  rcases Nat.lt_or_ge i k with z | z
  · exact h i q z
  · obtain rfl : i = k := by omega
    rw [get_of hf q]; exact hl
theorem ret_slice {A : Option Addr} {n m c : Nat} {v : Value} (h : n = m) : Ending.returned (.tuple #[.slice A n c, v]) = .returned (.tuple #[.slice A m c, v]) := by rw [h]

set_option maxRecDepth 100000 in
set_option maxHeartbeats 4000000 in
theorem rput_yes (A : Option Addr) (c : Nat) (fs : List Fl) (f : Fl) (w : World) (hr : Rd w A fs) (hc : fs.length ≤ 1000) (l1 : f.1.length ≤ 9223372036854775807) (h4 : f.2.length ≤ 4000)
    (hn : Hid (nmOk f.1 = true)) (hh : Hid (hasL fs f.1 = true) ∨ (Hid (hasL fs f.1 = false) ∧ fs.length < 32)) :
    Calls Tryz.prog 16 #[.slice A fs.length c, .agg #[.string ⟨f.1.toArray⟩, .string ⟨f.2.toArray⟩]] w (Res2 w (putL fs f) (.int .i64 0)) := by
  have HS := Lib.hid (put_shape fs f)
  have HD := Lib.hid (fun (w' : World) (h : Rd w' A fs) => rdrop_any A c fs f.1 w' h (by omega))
  have hdl := dropL_len fs f.1
  generalize dropL fs f.1 = ds at HS HD hdl
  have b0 := one_below w (.cells #[.string ⟨f.1.toArray⟩, .string ⟨f.2.toArray⟩] 45)
  have N1 := Lib.hid (new_fst w (.string ⟨f.1.toArray⟩) (.string ⟨f.2.toArray⟩) 45)
  have N2 := Lib.hid (new_snd w (.string ⟨f.1.toArray⟩) (.string ⟨f.2.toArray⟩) 45)
  have HR := Lib.hid hr
  clear hr
  obtain ⟨hb, hhb⟩ : ∃ hb, hb = hasL fs f.1 := ⟨_, rfl⟩
  rw [← hhb] at HD hh
  clear hhb
  have hcase : hb = true ∨ (hb = false ∧ fs.length < 32) := by
    rcases hh with h | ⟨h, k⟩
    · exact .inl h.out
    · exact .inr ⟨h.out, k⟩
  clear hh
  have d4 : decide ((4000 : Int) < (f.2.length : Int)) = false := decide_eq_false (by omega)
  rcases hcase with rfl | ⟨rfl, h32⟩
  all_goals
    try (have d32 : decide ((32 : Int) ≤ (fs.length : Int)) = false := decide_eq_false (by omega))
    go_enter Tryz.func16, Tryz.ntmps16
    go_wp2_with fail
    refine (rname_any f.1 _ l1).mono ?_
    rw [hn.out]
    rintro e w1 ⟨rfl, rfl⟩
    have hr1 := HR.out.below b0
    go_wp2_with fail
    refine (HD.out _ hr1).mono ?_
    rintro e w2 ⟨A2, c2, rfl, ho2, hb2⟩
    have hbw := bch b0 hb2
    have m1 := cell_below hb2 N1.out
    have m2 := cell_below hb2 N2.out
    have hr2 := ho2.rd
    obtain ⟨cc1, cc2, _⟩ := ho2.cap
    have ho3 := own_empty w2
    have hb3 := one_below w2 (.cells #[] 45)
    have HR2 := Lib.hid hr2
    have HM1 := Lib.hid m1
    have HM2 := Lib.hid m2
    clear hr2 hr1 HD N1 N2 ho2
    go_wp2_with fail
    clear m1 m2
    go_loopw [8, 9] (fun v i wr => ∃ (k : Nat) (B : Option Addr) (d : Nat) (xs : List Fl), k ≤ ds.length ∧ i = .int .i64 k ∧ v = .slice B xs.length d ∧ xs = ds.take k ∧ (∀ i (q : i < ds.length), i < k → Op.bytesLess ds[i].1 f.1 = true) ∧ Own wr w2.heap.size B d xs ∧ Below w2.heap.size w2 wr) (fun _ i _ => ds.length - (intOf i).toNat)
    case atStart => exact ⟨0, _, 0, [], Nat.zero_le _, rfl, rfl, rfl, (fun i q h => absurd h (by omega)), ho3, hb3⟩
    case round =>
      clear ho3 hb3
      obtain ⟨k, B, d, xs, hk, rfl, rfl, hx, hall, hown, hb⟩ := hrel
      have hxl : xs.length = k := by rw [hx]; simp; omega
      have HX := Lib.hid hx
      have HA := Lib.hid hall
      clear hx hall
      have n1 := cell_below hb HM1.out
      have n2 := cell_below hb HM2.out
      have hr3 := HR2.out.below hb
      by_cases hgo : ∃ g, ds[k]? = some g ∧ Op.bytesLess g.1 f.1 = true
      · obtain ⟨g, hg, hl⟩ := hgo
        have hlt : k < ds.length := by
          rcases Nat.lt_or_ge k ds.length with z | z
          · exact z
          · rw [List.getElem?_eq_none z] at hg; cases hg
        obtain ⟨b, o, rfl, hcell⟩ := hr3 (by omega)
        obtain ⟨g1, g2⟩ := hcell k g hg
        have HG := Lib.hid hg
        have HL := Lib.hid hl
        have HK := Lib.hid hxl
        clear hg hcell hr3 hxl
        have i1 : (k : Int) < (ds.length : Int) := by omega
        go_wp2_with fail
        go_quiet (fail)
        replace hb := bch hb (drewN_below wr nq)
        replace hown := hown.below (drewN_below wr nq)
        have g1' : (wr.drewN nq).cell? ⟨b, o + k * 2, none⟩ = _ := g1
        have g2' : (wr.drewN nq).cell? ⟨b, o + k * 2 + 1, none⟩ = _ := g2
        generalize wr.drewN nq = wq at hb hown g1' g2' ⊢
        clear g1 g2 n1 n2
        go_wp2_with (at_builtin; refine wpList_append_rd _ rfl _ _ rfl w2.heap.size _ xs rfl (hown.alloc _) (some ⟨wq.heap.size, 0, none⟩) 1 [g] rfl (one_new wq g) (by have := HK.out; simp; omega) (by have := hb.size; simp; omega) ?_; intro A1 c1' w3 hown2 hb2)
        go_roundw
        case rel => exact ⟨k + 1, A1, c1', xs ++ [g], by omega, by go_num, by simp, by rw [HX.out, at_take HG.out], lt_step HG.out HL.out HA.out, hown2, (hb.alloc hb.size _).trans hb2⟩
        case measure => simp [intOf]; omega
      · have hp : plc ds f.1 = k := take_plc HA.out hk (by
          rcases Nat.lt_or_ge k ds.length with z | z
          · right
            refine ⟨ds[k], List.getElem?_eq_getElem z, ?_⟩
            cases q : Op.bytesLess ds[k].1 f.1
            · rfl
            · exact absurd ⟨ds[k], List.getElem?_eq_getElem z, q⟩ hgo
          · left; omega)
        have hfin := HS.out
        rw [hp, ← HX.out] at hfin
        have hyl : (ds.drop k).length = ds.length - k := by simp
        subst hxl
        by_cases hlt : xs.length < ds.length
        · have hry := Rd.cut HR2.out (k := xs.length) (c := c2) hk cc1
          obtain ⟨b, o, rfl, hcell⟩ := hr3 (by omega)
          obtain ⟨g, hg⟩ : ∃ g, ds[xs.length]? = some g := ⟨_, List.getElem?_eq_getElem hlt⟩
          obtain ⟨g1, g2⟩ := hcell _ g hg
          have hl : Op.bytesLess g.1 f.1 = false := by
            cases q : Op.bytesLess g.1 f.1
            · rfl
            · exact absurd ⟨g, hg, q⟩ hgo
          have hne : ¬ c2 = xs.length := by omega
          unfold cutA at hry
          rw [if_neg hne] at hry
          simp only [Option.map_some, add_lit] at hry
          generalize ds.drop xs.length = ys at hfin hry hyl
          have HFIN := Lib.hid hfin
          have HY := Lib.hid hyl
          have HRY := Lib.hid hry
          have hsum : xs.length + ys.length ≤ 1000 := by omega
          obtain ⟨r1, hr1⟩ : ∃ r, xs ++ [f] = r := ⟨_, rfl⟩
          obtain ⟨r2, hr2⟩ : ∃ r, r1 ++ ys = r := ⟨_, rfl⟩
          have R1 := Lib.hid hr1
          have R2 := Lib.hid hr2
          clear hr1 hr2
          clear hp hfin hyl hry hg hcell hgo
          have i1 : (xs.length : Int) < (ds.length : Int) := by omega
          go_wp2_with fail
          go_quiet (fail)
          replace hb := bch hb (drewN_below wr nq)
          replace hown := hown.below (drewN_below wr nq)
          have n1' : (wr.drewN nq).cell? ⟨w.heap.size, 0, none⟩ = _ := n1
          have n2' : (wr.drewN nq).cell? ⟨w.heap.size, 1, none⟩ = _ := n2
          generalize wr.drewN nq = wq at hb hown n1' n2' ⊢
          clear n1 n2 g1 g2 hl
          go_wp2_with (first | (at_builtin; refine wpList_append_rdn _ rfl (.tmp 61) (.tmp 63) rfl w2.heap.size _ xs rfl (hown.alloc _) (some ⟨wq.heap.size, 0, none⟩) 1 1 [f] rfl rfl (one_new wq f) (by simp; omega) (by have := hb.size; simp; omega) r1 R1.out ?_; intro A1 c1' w3 hown2 hb3; have hbb := (hb.alloc hb.size (.cells #[.string ⟨f.1.toArray⟩, .string ⟨f.2.toArray⟩] 45)).trans hb3) | (at_builtin; refine wpList_append_rdn _ rfl (.tmp 65) (.tmp 68) rfl w2.heap.size _ r1 rfl hown2 (some ⟨b, o + xs.length * 2, none⟩) (ds.length - xs.length) (c2 - xs.length) ys HY.out.symm rfl (HRY.out.below hbb) (by rw [← R1.out]; simp; omega) hbb.size r2 R2.out ?_; intro A4 c4 w4 hown4 hb4))
          go_ret2
          have e := HFIN.out
          rw [R1.out, R2.out] at e
          rw [e]
          exact ⟨A4, c4, rfl, hown4.mono hbw.size, bch hbw (hbb.trans hb4)⟩
        · have hye : ds.drop xs.length = [] := List.drop_of_length_le (by omega)
          rw [hye, List.append_nil] at hfin
          have HFIN := Lib.hid hfin
          clear hp hfin hyl hgo hye hr3
          obtain he : ds.length = xs.length := by omega
          have hd : decide ((xs.length : Int) < (ds.length : Int)) = false := decide_eq_false (by omega)
          have hd2 : decide (xs.length < ds.length) = false := decide_eq_false (by omega)
          have HE := Lib.hid he
          clear he
          obtain ⟨r1, hr1⟩ : ∃ r, xs ++ [f] = r := ⟨_, rfl⟩
          have R1 := Lib.hid hr1
          clear hr1
          go_wp2_with fail
          go_quiet (fail)
          replace hb := bch hb (drewN_below wr nq)
          replace hown := hown.below (drewN_below wr nq)
          have n1' : (wr.drewN nq).cell? ⟨w.heap.size, 0, none⟩ = _ := n1
          have n2' : (wr.drewN nq).cell? ⟨w.heap.size, 1, none⟩ = _ := n2
          generalize wr.drewN nq = wq at hb hown n1' n2' ⊢
          clear n1 n2
          have e2 := cut_from A2 ds.length c2 xs.length hk
          go_wp2_with (first | (at_builtin; refine wpList_append_rdn _ rfl (.tmp 61) (.tmp 63) rfl w2.heap.size _ xs rfl (hown.alloc _) (some ⟨wq.heap.size, 0, none⟩) 1 1 [f] rfl rfl (one_new wq f) (by simp; omega) (by have := hb.size; simp; omega) r1 R1.out ?_; intro A1 c1' w3 hown2 hb3; have hbb := (hb.alloc hb.size (.cells #[.string ⟨f.1.toArray⟩, .string ⟨f.2.toArray⟩] 45)).trans hb3) | (at_builtin; refine wpList_append_rdn _ rfl (.tmp 65) (.tmp 68) rfl w2.heap.size _ r1 rfl hown2 (cutA A2 c2 xs.length) (ds.length - xs.length) (c2 - xs.length) [] (by have := HE.out; simp; omega) rfl (Rd.empty _ _) (by rw [← R1.out]; simp; omega) hbb.size r1 (List.append_nil _) ?_; intro A4 c4 w4 hown4 hb4))
          go_ret2
          have e := HFIN.out
          rw [R1.out] at e
          rw [e]
          exact ⟨A4, c4, rfl, hown4.mono hbw.size, bch hbw (hbb.trans hb4)⟩

set_option maxRecDepth 100000 in
set_option maxHeartbeats 2000000 in
theorem rput_any (A : Option Addr) (c : Nat) (fs : List Fl) (f : Fl) (w : World) (hr : Rd w A fs) (hc : fs.length ≤ 32) (l1 : f.1.length ≤ 9223372036854775807) (l2 : f.2.length ≤ 9223372036854775807) :
    Calls Tryz.prog 16 #[.slice A fs.length c, .agg #[.string ⟨f.1.toArray⟩, .string ⟨f.2.toArray⟩]] w (Res2 w (putR fs f) (.int .i64 (putE fs f))) := by
  have b0 := one_below w (.cells #[.string ⟨f.1.toArray⟩, .string ⟨f.2.toArray⟩] 45)
  have N1 := Lib.hid (new_fst w (.string ⟨f.1.toArray⟩) (.string ⟨f.2.toArray⟩) 45)
  have N2 := Lib.hid (new_snd w (.string ⟨f.1.toArray⟩) (.string ⟨f.2.toArray⟩) 45)
  cases hn : nmOk f.1
  · have hw : wrE f = 2 := (wrE_name hn).symm
    have he : putE fs f = 2 := by rw [putE_wr (by rw [hw]; decide), hw]
    rw [putR_no (by rw [he]; decide), he]
    have HN := Lib.hid hn
    clear hn hw he
    go_enter Tryz.func16, Tryz.ntmps16
    go_wp2_with fail
    refine (rname_any f.1 _ l1).mono ?_
    rw [HN.out]
    rintro e w1 ⟨rfl, rfl⟩
    go_wp2
    go_ret2
    exact ⟨none, 0, rfl, World.ownsRow_nil _ _ _ _, b0⟩
  · have HD := Lib.hid (fun (w' : World) (h : Rd w' A fs) => rdrop_any A c fs f.1 w' h (by omega))
    by_cases h4 : 4000 < f.2.length
    · have hw : wrE f = 3 := (wrE_text hn h4).symm
      have he : putE fs f = 3 := by rw [putE_wr (by rw [hw]; decide), hw]
      rw [putR_no (by rw [he]; decide), he]
      have HN := Lib.hid hn
      have HR := Lib.hid hr
      clear hn hw he hr
      generalize dropL fs f.1 = ds at HD
      generalize hasL fs f.1 = hb at HD
      go_enter Tryz.func16, Tryz.ntmps16
      go_wp2_with fail
      refine (rname_any f.1 _ l1).mono ?_
      rw [HN.out]
      rintro e w1 ⟨rfl, rfl⟩
      have hr1 := HR.out.below b0
      go_wp2_with fail
      refine (HD.out _ hr1).mono ?_
      rintro e w2 ⟨A2, c2, rfl, ho2, hb2⟩
      have hbw := bch b0 hb2
      have m1 := cell_below hb2 N1.out
      have m2 := cell_below hb2 N2.out
      go_wp2
      go_ret2
      exact ⟨none, 0, rfl, World.ownsRow_nil _ _ _ _, hbw⟩
    · have hw : wrE f = 0 := (wrE_fine hn h4).symm
      cases hh : hasL fs f.1
      · by_cases h32 : fs.length < 32
        · have he := putE_mk hw (.inr h32)
          rw [putR_yes he, he]
          exact rput_yes A c fs f w hr (by omega) l1 (by omega) (Lib.hid hn) (.inr ⟨Lib.hid hh, h32⟩)
        · have he := putE_full hw hh (by omega)
          rw [putR_no (by rw [he]; decide), he]
          rw [hh] at HD
          have HN := Lib.hid hn
          have HR := Lib.hid hr
          clear hn hw he hr hh
          generalize dropL fs f.1 = ds at HD
          have d4 : decide ((4000 : Int) < (f.2.length : Int)) = false := decide_eq_false (by omega)
          go_enter Tryz.func16, Tryz.ntmps16
          go_wp2_with fail
          refine (rname_any f.1 _ l1).mono ?_
          rw [HN.out]
          rintro e w1 ⟨rfl, rfl⟩
          have hr1 := HR.out.below b0
          go_wp2_with fail
          refine (HD.out _ hr1).mono ?_
          rintro e w2 ⟨A2, c2, rfl, ho2, hb2⟩
          have hbw := bch b0 hb2
          have m1 := cell_below hb2 N1.out
          have m2 := cell_below hb2 N2.out
          go_wp2
          go_ret2
          exact ⟨none, 0, rfl, World.ownsRow_nil _ _ _ _, hbw⟩
      · have he := putE_mk hw (.inl hh)
        rw [putR_yes he, he]
        exact rput_yes A c fs f w hr (by omega) l1 (by omega) (Lib.hid hn) (.inl (Lib.hid hh))
end Go.Proofs.YtmnbepapgghdaaaGreat.Fl

namespace Go.Proofs.YtmnbepapgghdaaaGreat.Fl
open Go.RowKit

theorem ext_take (l : List UInt8) (m : Nat) : Value.string ((⟨l.toArray⟩ : ByteArray).extract 0 m) = .string ⟨(l.take m).toArray⟩ := by
  congr 1
  apply ByteArray.ext
  simp [ByteArray.data_extract]
theorem ext_all (l : List UInt8) (m : Nat) (h : l.length ≤ m) : Value.string ((⟨l.toArray⟩ : ByteArray).extract 0 l.length) = .string ⟨(l.take m).toArray⟩ := by
  rw [ext_take, List.take_of_length_le (Nat.le_refl _), List.take_of_length_le h]
theorem fold_step {l : List Fl} {k b : Nat} {f : Fl} (h : l[k]? = some f) : (l.take (k + 1)).foldl (stepL b) [] = stepL b ((l.take k).foldl (stepL b) []) f := by
  rw [at_take h, List.foldl_append]; rfl
theorem step_yes {b : Nat} {xs : List Fl} {f : Fl} (h : putE xs (f.1, f.2.take b) = 0) : stepL b xs f = putL xs (f.1, f.2.take b) := by unfold stepL; rw [if_pos h]
theorem step_no {b : Nat} {xs : List Fl} {f : Fl} (h : putE xs (f.1, f.2.take b) ≠ 0) : stepL b xs f = xs := by unfold stepL; rw [if_neg h]
theorem take_min (l : List Fl) (m : Nat) : l.take (min l.length m) = l.take m := by
  rw [List.take_eq_take_iff]; omega

set_option maxRecDepth 100000 in
set_option maxHeartbeats 2000000 in
theorem map_any (A : Option Addr) (c : Nat) (fs : List Fl) (most bytes : Nat) (w : World) (hr : Rd w A fs) (hfit : Hid (Fit fs)) (hl : fs.length ≤ 9223372036854775807) (hm : most ≤ 1000) (hby : bytes ≤ 10000) :
    Calls Tryz.prog 23 #[.slice A fs.length c, .int .i64 most, .int .i64 bytes] w (Res w (mapL fs most bytes)) := by
  have ho0 := own_empty w
  have hb0 := one_below w (.cells #[] 45)
  go_enter Tryz.func23, Tryz.ntmps23
  go_wp2_with fail
  go_loopw [7, 8] (fun v i wr => ∃ (k : Nat) (C : Option Addr) (cc : Nat) (xs : List Fl), k ≤ fs.length ∧ k ≤ most ∧ i = .int .i64 k ∧ v = .slice C xs.length cc ∧ Good xs ∧ xs = (fs.take k).foldl (stepL bytes) [] ∧ Own wr w.heap.size C cc xs ∧ Below w.heap.size w wr) (fun _ i _ => fs.length - (intOf i).toNat)
  case atStart => exact ⟨0, _, 0, [], Nat.zero_le _, Nat.zero_le _, rfl, rfl, Good.nil, rfl, ho0, hb0⟩
  case round =>
    clear ho0 hb0
    obtain ⟨k, C, cc, xs, hk, hk2, rfl, rfl, hgx, hx, hown, hb⟩ := hrel
    have HG := Lib.hid hgx
    have HX := Lib.hid hx
    have HO := Lib.hid hown
    have hxl := hgx.2.1
    clear hgx hx hown
    by_cases hlt : k < fs.length
    · by_cases hlt2 : k < most
      · have hrw := hr.below hb
        obtain ⟨b, o, rfl, hcell⟩ := hrw (by omega)
        obtain ⟨f, hf⟩ : ∃ f, fs[k]? = some f := ⟨_, List.getElem?_eq_getElem hlt⟩
        obtain ⟨c1, c2⟩ := hcell k f hf
        obtain ⟨l1, l2⟩ := hfit.out f (List.mem_of_getElem? hf)
        have HF := Lib.hid hf
        clear hf hcell hrw
        have i1 : (k : Int) < (most : Int) := by omega
        obtain ⟨v, hv⟩ : ∃ v, v = f.2.take bytes := ⟨_, rfl⟩
        have HV := Lib.hid hv
        clear hv
        have lv : v.length ≤ 9223372036854775807 := by rw [HV.out]; simp; omega
        have bb := one_below wr (.cells #[.string ⟨f.1.toArray⟩, .string ⟨v.toArray⟩] 45)
        have hput := rput_any C cc xs (f.1, v) _ (HO.out.rd.below bb) hxl l1 lv
        have hst := fold_step (b := bytes) HF.out
        rw [← HX.out] at hst
        by_cases he : putE xs (f.1, v) = 0
        · rw [he, putR_yes he] at hput
          have hgp := putL_good HG.out he
          have hsy : stepL bytes xs f = putL xs (f.1, v) := by
            have he' := he
            rw [HV.out] at he' ⊢
            exact step_yes he'
          rw [hsy] at hst
          generalize putL xs (f.1, v) = ps at hput hgp hst hsy
          have HP := Lib.hid hput
          have HGP := Lib.hid hgp
          have HST := Lib.hid hst
          clear hput hgp hst hsy he
          rcases Nat.lt_or_ge bytes f.2.length with hbl | hbl
          · have XV := Lib.hid (show Value.string ((⟨f.2.toArray⟩ : ByteArray).extract 0 bytes) = .string ⟨v.toArray⟩ by rw [HV.out]; exact ext_take _ _)
            go_wp2_with fail
            rw [XV.out]
            refine HP.out.mono ?_
            rintro e w2 ⟨A2, c2, rfl, ho2, hb2⟩
            go_wp2
            go_roundw
            case rel => exact ⟨k + 1, A2, c2, ps, by omega, by omega, by go_num, rfl, HGP.out, HST.out.symm, ho2.mono (by have := hb.size; simp; omega), bch hb (bch bb hb2)⟩
            case measure => simp [intOf]; omega
          · have XV := Lib.hid (show Value.string ((⟨f.2.toArray⟩ : ByteArray).extract 0 f.2.length) = .string ⟨v.toArray⟩ by rw [HV.out]; exact ext_all _ _ hbl)
            go_wp2_with fail
            rw [XV.out]
            refine HP.out.mono ?_
            rintro e w2 ⟨A2, c2, rfl, ho2, hb2⟩
            go_wp2
            go_roundw
            case rel => exact ⟨k + 1, A2, c2, ps, by omega, by omega, by go_num, rfl, HGP.out, HST.out.symm, ho2.mono (by have := hb.size; simp; omega), bch hb (bch bb hb2)⟩
            case measure => simp [intOf]; omega
        · rw [putR_no he] at hput
          have q : (putE xs (f.1, v) == 0) = false := by simpa using he
          have hsy : stepL bytes xs f = xs := by
            have he' := he
            rw [HV.out] at he'
            exact step_no he'
          rw [hsy] at hst
          have HP := Lib.hid hput
          have HST := Lib.hid hst
          clear hput hst hsy he
          rcases Nat.lt_or_ge bytes f.2.length with hbl | hbl
          · have XV := Lib.hid (show Value.string ((⟨f.2.toArray⟩ : ByteArray).extract 0 bytes) = .string ⟨v.toArray⟩ by rw [HV.out]; exact ext_take _ _)
            go_wp2_with fail
            rw [XV.out]
            refine HP.out.mono ?_
            rintro e w2 ⟨A2, c2, rfl, ho2, hb2⟩
            go_wp2
            go_roundw
            case rel => exact ⟨k + 1, C, cc, xs, by omega, by omega, by go_num, rfl, HG.out, HST.out.symm, HO.out.below (bch bb hb2), bch hb (bch bb hb2)⟩
            case measure => simp [intOf]; omega
          · have XV := Lib.hid (show Value.string ((⟨f.2.toArray⟩ : ByteArray).extract 0 f.2.length) = .string ⟨v.toArray⟩ by rw [HV.out]; exact ext_all _ _ hbl)
            go_wp2_with fail
            rw [XV.out]
            refine HP.out.mono ?_
            rintro e w2 ⟨A2, c2, rfl, ho2, hb2⟩
            go_wp2
            go_roundw
            case rel => exact ⟨k + 1, C, cc, xs, by omega, by omega, by go_num, rfl, HG.out, HST.out.symm, HO.out.below (bch bb hb2), bch hb (bch bb hb2)⟩
            case measure => simp [intOf]; omega
      · obtain rfl : k = most := by omega
        go_wp2
        go_ret
        have e := HX.out
        unfold mapL
        rw [← e]
        exact ⟨C, cc, rfl, HO.out, hb⟩
    · go_wp2
      go_ret
      have e := HX.out
      unfold mapL
      rw [show fs.take most = fs.take k by rw [List.take_of_length_le (by omega), List.take_of_length_le (by omega)], ← e]
      exact ⟨C, cc, rfl, HO.out, hb⟩
end Go.Proofs.YtmnbepapgghdaaaGreat.Fl
