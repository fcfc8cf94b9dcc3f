/-
  Package macro: parts of a slice, slices.Index and Contains of numbers, is, place, skip, Word, fresh.
-/
import Derived.Test.YtjneeikkakekjaaDoorMD
namespace Go.Proofs.YtjneeikkakekjaaDoor
open Go.RowKit

/-- Where a part of a slice begins; s cells an element. -/
def cutS (s : Nat) (A : Option Addr) (c k : Nat) : Option Addr := if c = k then A else A.map (·.add (k * s))
theorem sz_run {e : TypeId} {z : Value} {s b : Nat} (h : (Tryd.prog.info? e).map (fun i => (i.zero, i.size, i.bytes)) = some (some z, s, b)) (w : World) : (sizeOf e).run Tryd.prog w = .ok s w := by
  obtain ⟨i0, hi, hz0, hz1, hz2⟩ := info_parts h
  simp [sizeOf, typeInfo, hi, hz1]
theorem part_lh (t e : TypeId) (s : Nat) (hT : Tryd.prog.underlying t = some (.slice (Tryd.prog.elem t))) (he : Tryd.prog.elem t = e) (hs : ∀ w, (sizeOf e).run Tryd.prog w = .ok s w)
    (A : Option Addr) (n c l h : Nat) (h1 : l ≤ h) (h2 : h ≤ c) (w : World) : (Instr.slice t (.slice A n c) (some (.int .i64 l)) (some (.int .i64 h)) none).run Tryd.prog w = .ok (.slice (cutS s A c l) (h - l) (c - l)) w := by
  rw [run_slice_lh (P := Tryd.prog) w t A n c hT .i64 .i64 l h (by omega) (by omega) (by omega), he, hs]
  simp [sliced, Result.andThen, cutS]
theorem part_l (t e : TypeId) (s : Nat) (hT : Tryd.prog.underlying t = some (.slice (Tryd.prog.elem t))) (he : Tryd.prog.elem t = e) (hs : ∀ w, (sizeOf e).run Tryd.prog w = .ok s w)
    (A : Option Addr) (n c l : Nat) (h1 : l ≤ n) (w : World) : (Instr.slice t (.slice A n c) (some (.int .i64 l)) none none).run Tryd.prog w = .ok (.slice (cutS s A c l) (n - l) (c - l)) w := by
  rw [run_slice_l (P := Tryd.prog) w t A n c hT .i64 l (by omega) (by omega), he, hs]
  simp [sliced, Result.andThen, cutS]
theorem part_h (t e : TypeId) (s : Nat) (hT : Tryd.prog.underlying t = some (.slice (Tryd.prog.elem t))) (he : Tryd.prog.elem t = e) (hs : ∀ w, (sizeOf e).run Tryd.prog w = .ok s w)
    (A : Option Addr) (n c h : Nat) (h2 : h ≤ c) (w : World) : (Instr.slice t (.slice A n c) none (some (.int .i64 h)) none).run Tryd.prog w = .ok (.slice A h c) w := by
  rw [run_slice_h (P := Tryd.prog) w t A n c hT .i64 h (by omega) (by omega), he, hs]
  simp [sliced, Result.andThen]
  cases A <;> simp [Addr.add]
theorem tok_part {A : Option Addr} {n c l h : Nat} (h1 : l ≤ h) (h2 : h ≤ c) (w : World) : (Instr.slice 22 (.slice A n c) (some (.int .i64 l)) (some (.int .i64 h)) none).run Tryd.prog w = .ok (.slice (cutS 2 A c l) (h - l) (c - l)) w :=
  part_lh 22 41 2 (by kernel_rfl) (by kernel_rfl) (sz_run Tryd.info41) A n c l h h1 h2 w
theorem tok_from {A : Option Addr} {n c l : Nat} (h1 : l ≤ n) (w : World) : (Instr.slice 22 (.slice A n c) (some (.int .i64 l)) none none).run Tryd.prog w = .ok (.slice (cutS 2 A c l) (n - l) (c - l)) w :=
  part_l 22 41 2 (by kernel_rfl) (by kernel_rfl) (sz_run Tryd.info41) A n c l h1 w
theorem tok_to {A : Option Addr} {n c h : Nat} (h2 : h ≤ c) (w : World) : (Instr.slice 22 (.slice A n c) none (some (.int .i64 h)) none).run Tryd.prog w = .ok (.slice A h c) w :=
  part_h 22 41 2 (by kernel_rfl) (by kernel_rfl) (sz_run Tryd.info41) A n c h h2 w
theorem rtok_part {A : Option Addr} {n c l h : Nat} (h1 : l ≤ h) (h2 : h ≤ c) (w : World) : (Instr.slice 28 (.slice A n c) (some (.int .i64 l)) (some (.int .i64 h)) none).run Tryd.prog w = .ok (.slice (cutS 2 A c l) (h - l) (c - l)) w :=
  part_lh 28 81 2 (by kernel_rfl) (by kernel_rfl) (sz_run Tryd.info81) A n c l h h1 h2 w
theorem Rd.part {w : World} {A : Option Addr} {fs : List Tok} (h : Rd w A fs) {l m c : Nat} (hm : l + m ≤ fs.length) (hc : fs.length ≤ c) : Rd w (cutS 2 A c l) ((fs.drop l).take m) := fun h0 => by
  have hl : 0 < m := by
    rw [List.length_take] at h0; omega
  obtain ⟨b, o, rfl, hcell⟩ := h (by omega)
  unfold cutS
  rw [if_neg (by omega), Option.map_some, add_lit]
  refine ⟨b, o + l * 2, rfl, fun i f hi => ?_⟩
  have hi2 : fs[l + i]? = some f := by
    rw [List.getElem?_take] at hi
    split at hi
    · rw [List.getElem?_drop] at hi; exact hi
    · cases hi
  obtain ⟨h1, h2⟩ := hcell _ f hi2
  rw [show o + l * 2 + i * 2 = o + (l + i) * 2 by omega]
  exact ⟨h1, h2⟩
theorem Rd.take {w : World} {A : Option Addr} {fs : List Tok} (h : Rd w A fs) (m : Nat) : Rd w A (fs.take m) := fun h0 => by
  obtain ⟨b, o, rfl, hcell⟩ := h (by rw [List.length_take] at h0; omega)
  refine ⟨b, o, rfl, fun i f hi => ?_⟩
  rw [List.getElem?_take] at hi
  split at hi
  · exact hcell i f hi
  · cases hi

/-- Numbers in a block. -/
def RdI (w : World) (g : Nat) (ks : List Int) : Prop := ∀ i k, ks[i]? = some k → w.cell? ⟨g, i, none⟩ = some (.int .i64 k)
/-- A place, or a number below none. -/
def IdxPost (b : Bool) (w : World) (e : Ending) (w' : World) : Prop := (∃ v : Int, e = .returned (.int .i64 v) ∧ decide (0 ≤ v) = b) ∧ w = w'
set_option maxRecDepth 100000 in
set_option maxHeartbeats 1000000 in
theorem sindex_any (g n : Nat) (ks : List Int) (x : Int) (w : World) (hr : Hid (RdI w g ks)) (hn : n = ks.length) (hl : ks.length ≤ 1000) :
    Calls Tryd.prog 66 #[.slice (some ⟨g, 0, none⟩) n n, .int .i64 x] w (IdxPost (decide (x ∈ ks)) w) := by
  subst hn
  go_enter Tryd.func66, Tryd.ntmps66
  go_wp2
  go_loop [8] (fun i => ∃ k : Nat, k ≤ ks.length ∧ i = .int .i64 k ∧ Hid (x ∉ ks.take k)) (fun i => ks.length - (intOf i).toNat)
  case atStart => exact ⟨0, Nat.zero_le _, rfl, Lib.hid (by simp)⟩
  case round =>
    obtain ⟨k, hk, rfl, HX⟩ := hrel
    by_cases hlt : k < ks.length
    · obtain ⟨y, hy⟩ : ∃ y, ks[k]? = some y := ⟨_, List.getElem?_eq_getElem hlt⟩
      have c1 := hr.out k y hy
      have i1 : (k : Int) < (ks.length : Int) := by omega
      by_cases hxy : x = y
      · have HI := Lib.hid (show x ∈ ks by rw [hxy]; exact List.mem_of_getElem? hy)
        have q : (x == y) = true := by simpa using hxy
        clear hy HX hxy
        go_wp2
        go_ret
        exact ⟨⟨k, rfl, by rw [decide_eq_true HI.out]; exact decide_eq_true (by omega)⟩, rfl⟩
      · have HN := Lib.hid (show x ∉ ks.take (k + 1) by
          rw [at_take hy, List.mem_append]
          rintro (h | h)
          · exact HX.out h
          · simp at h; exact hxy h)
        have q : (x == y) = false := by simpa using hxy
        clear hy HX hxy
        go_wp2
        go_round
        case rel => exact ⟨k + 1, by omega, by go_num, HN⟩
        case measure => simp [intOf]; omega
    · have hfin := HX.out
      rw [List.take_of_length_le (by omega)] at hfin
      have HF := Lib.hid hfin
      have i1 : ¬ (k : Int) < (ks.length : Int) := by omega
      clear HX hfin
      go_wp2
      go_ret
      exact ⟨⟨-1, rfl, by rw [decide_eq_false HF.out]; rfl⟩, rfl⟩
set_option maxRecDepth 100000 in
set_option maxHeartbeats 1000000 in
theorem scont_any (g n : Nat) (ks : List Int) (x : Int) (w : World) (hr : Hid (RdI w g ks)) (hn : n = ks.length) (hl : ks.length ≤ 1000) :
    Calls Tryd.prog 54 #[.slice (some ⟨g, 0, none⟩) n n, .int .i64 x] w fun e w' => e = .returned (.bool (decide (x ∈ ks))) ∧ w = w' := by
  have C := Lib.hid (sindex_any g n ks x w hr hn hl)
  generalize decide (x ∈ ks) = b at *
  clear hr hn hl
  go_enter Tryd.func54, Tryd.ntmps54
  go_wp2_with fail
  refine C.out.mono ?_
  rintro e w' ⟨⟨v, rfl, hv⟩, rfl⟩
  have HV := Lib.hid hv
  clear hv
  go_wp2
  go_ret
  exact ⟨ret_bool (by first | exact HV.out | (rw [← HV.out]; rfl)), rfl⟩
theorem RdI.below {w w' : World} {g : Nat} {ks : List Int} (h : RdI w g ks) (hb : Below w.heap.size w w') : RdI w' g ks := fun i k hi => cell_below hb (h i k hi)
set_option maxRecDepth 100000 in
set_option maxHeartbeats 1000000 in
theorem is_any (κ : Int) (z : ByteArray) (g n : Nat) (ks : List Int) (w : World) (hr : RdI w g ks) (hn : n = ks.length) (hl : ks.length ≤ 1000) :
    Calls Tryd.prog 36 #[.agg #[.int .i64 κ, .string z], .slice (some ⟨g, 0, none⟩) n n] w fun e w' => e = .returned (.bool (decide (κ ∈ ks))) ∧ Below w.heap.size w w' := by
  have hb := one_below w (.cells #[.int .i64 κ, .string z] 41)
  have C := Lib.hid (scont_any g n ks κ (w.alloc (.cells #[.int .i64 κ, .string z] 41)) (Lib.hid (hr.below hb)) hn hl)
  have HB := Lib.hid hb
  generalize decide (κ ∈ ks) = b at *
  clear hr hn hl hb
  go_enter Tryd.func36, Tryd.ntmps36
  go_wp2_with fail
  refine C.out.mono ?_
  rintro e w' ⟨rfl, rfl⟩
  go_wp2
  go_ret
  exact ⟨rfl, HB.out⟩
set_option maxRecDepth 100000 in
theorem is1_any (κ : Int) (z : ByteArray) (k : Int) (t : TypeId) (b : Bool) (hb : decide (κ = k) = b) (w : World) :
    Calls Tryd.prog 36 #[.agg #[.int .i64 κ, .string z], .slice (some ⟨w.heap.size, 0, none⟩) 1 1] (w.alloc (.cells #[.int .i64 k] t)) fun e w' => e = .returned (.bool b) ∧ Below w.heap.size w w' := by
  refine (is_any κ z w.heap.size 1 [k] (w.alloc (.cells #[.int .i64 k] t)) (fun i y hi => ?_) rfl (by simp)).mono ?_
  · match i, hi with
    | 0, hi => simp at hi; subst hi; exact new_one _ _ _
    | i + 1, hi => simp at hi
  · rintro e w' ⟨rfl, h⟩
    refine ⟨by rw [← hb]; simp, bch (one_below w _) h⟩
set_option maxRecDepth 100000 in
theorem is2_any (κ : Int) (z : ByteArray) (k j : Int) (t : TypeId) (b : Bool) (hb : decide (κ = k ∨ κ = j) = b) (w : World) :
    Calls Tryd.prog 36 #[.agg #[.int .i64 κ, .string z], .slice (some ⟨w.heap.size, 0, none⟩) 2 2] (w.alloc (.cells #[.int .i64 k, .int .i64 j] t)) fun e w' => e = .returned (.bool b) ∧ Below w.heap.size w w' := by
  refine (is_any κ z w.heap.size 2 [k, j] (w.alloc (.cells #[.int .i64 k, .int .i64 j] t)) (fun i y hi => ?_) rfl (by simp)).mono ?_
  · match i, hi with
    | 0, hi => simp at hi; subst hi; exact new_fst _ _ _ _
    | 1, hi => simp at hi; subst hi; exact new_snd _ _ _ _
    | i + 2, hi => simp at hi
  · rintro e w' ⟨rfl, h⟩
    refine ⟨by rw [← hb]; simp, bch (one_below w _) h⟩
set_option maxRecDepth 100000 in
theorem place_any (A : Option Addr) (c n : Nat) (x : Int) (w : World) (_hl : n ≤ 200000) :
    Calls Tryd.prog 35 #[.slice A n c, .int .i64 x] w fun e w' => e = .returned (.bool (decide (0 ≤ x ∧ x ≤ n))) ∧ w = w' := by
  by_cases h1 : 0 ≤ x
  · by_cases h2 : x ≤ n
    · rw [decide_eq_true ⟨h1, h2⟩]
      go_enter Tryd.func35, Tryd.ntmps35
      go_wp2
      go_ret
      exact ⟨rfl, rfl⟩
    · rw [decide_eq_false (fun h => h2 h.2)]
      go_enter Tryd.func35, Tryd.ntmps35
      go_wp2
      go_ret
      exact ⟨rfl, rfl⟩
  · rw [decide_eq_false (fun h => h1 h.1)]
    go_enter Tryd.func35, Tryd.ntmps35
    go_wp2
    go_ret
    exact ⟨rfl, rfl⟩
set_option maxRecDepth 100000 in
set_option maxHeartbeats 2000000 in
theorem skip_any (A : Option Addr) (c : Nat) (ts : List Tok) (a : Nat) (w : World) (hr : Rd w A ts) (hl : ts.length ≤ 200000) (ha : a ≤ ts.length) :
    Calls Tryd.prog 38 #[.slice A ts.length c, .int .i64 a] w fun e w' => e = .returned (.int .i64 (skipN ts a)) ∧ Below w.heap.size w w' := by
  obtain ⟨N, hN⟩ : ∃ N, skipN ts a = N := ⟨_, rfl⟩
  rw [hN]
  have HN := Lib.hid hN
  clear hN
  have hb0 := Below.refl w.heap.size w
  go_enter Tryd.func38, Tryd.ntmps38
  go_wp2
  go_loopw [1] (fun i wr => ∃ k : Nat, k ≤ ts.length ∧ i = .int .i64 k ∧ Hid (skipN ts k = N) ∧ Below w.heap.size w wr) (fun i _ => ts.length - (intOf i).toNat)
  case atStart => exact ⟨a, ha, rfl, HN, hb0⟩
  case round =>
    obtain ⟨k, hk, rfl, HK, hb⟩ := hrel
    clear hb0
    by_cases hlt : k < ts.length
    · obtain ⟨b, o, rfl, hcell⟩ := (hr.below hb) (by omega)
      obtain ⟨f, hf⟩ : ∃ f, ts[k]? = some f := ⟨_, List.getElem?_eq_getElem hlt⟩
      obtain ⟨c1, c2⟩ := hcell k f hf
      have i1 : (k : Int) < (ts.length : Int) := by omega
      by_cases h2 : f.1 = 2
      · have HS := Lib.hid ((skip_step hf h2).symm.trans HK.out)
        have C := Lib.hid (is1_any f.1 ⟨f.2.toArray⟩ 2 3 true (decide_eq_true h2) wr)
        clear hf hcell h2 HK
        go_wp2_with fail
        refine C.out.mono ?_
        rintro e w1 ⟨rfl, hb1⟩
        have hb2 := bch hb hb1
        clear hb hb1 c1 c2
        go_wp2
        go_roundw
        case rel => exact ⟨k + 1, by omega, by go_num, HS, hb2⟩
        case measure => simp [intOf]; omega
      · have HS := Lib.hid ((skip_stop hf h2).symm.trans HK.out)
        have C := Lib.hid (is1_any f.1 ⟨f.2.toArray⟩ 2 3 false (decide_eq_false h2) wr)
        clear hf hcell h2 HK
        go_wp2_with fail
        refine C.out.mono ?_
        rintro e w1 ⟨rfl, hb1⟩
        have hb2 := bch hb hb1
        clear hb hb1 c1 c2
        go_wp2
        go_ret
        exact ⟨ret_eq (int_eq (by have := HS.out; omega)), hb2⟩
    · have HS := Lib.hid ((skip_end (by omega)).symm.trans HK.out)
      have i1 : ¬ (k : Int) < (ts.length : Int) := by omega
      clear HK
      go_wp2
      go_ret
      exact ⟨ret_eq (int_eq (by have := HS.out; omega)), hb⟩
set_option maxRecDepth 100000 in
set_option maxHeartbeats 1000000 in
theorem word7_any (A : Option Addr) (c : Nat) (ts : List Tok) (w : World) (hr : Rd w A ts) (hl : ts.length ≤ 200000) :
    Calls Tryd.prog 18 #[.slice A ts.length c] w fun e w' => e = .returned (.tuple #[.string ⟨(wordE ts).1.toArray⟩, .bool (wordE ts).2]) ∧ Below w.heap.size w w' := by
  by_cases h1 : ts.length = 1
  · match ts, h1 with
    | [t], _ =>
      obtain ⟨b, o, rfl, hcell⟩ := hr (by simp)
      obtain ⟨c1, c2⟩ := hcell 0 t rfl
      have d1 : w.cell? ⟨b, o, none⟩ = some (.int .i64 t.1) := by simpa using c1
      have d2 : w.cell? ⟨b, o + 1, none⟩ = some (.string ⟨t.2.toArray⟩) := by simpa using c2
      clear hcell hr hl
      by_cases ht : t.1 = 1
      · have HE := Lib.hid (show wordE [t] = (t.2, true) by simp [wordE, ht])
        obtain ⟨k, z⟩ := t
        simp only at c2 d2 HE c1 d1 ht
        have C := Lib.hid (is1_any k ⟨z.toArray⟩ 1 3 true (decide_eq_true ht) w)
        clear ht
        generalize hts : wordE [(k, z)] = v at *
        go_enter Tryd.func18, Tryd.ntmps18
        go_wp2_with fail
        refine C.out.mono ?_
        rintro e w1 ⟨rfl, hb1⟩
        have e2 := cell_below hb1 d2
        have e1 := cell_below hb1 c2
        clear c1 c2 d1 d2
        go_wp2
        go_ret2
        rw [HE.out]
        exact ⟨rfl, hb1⟩
      · have HE := Lib.hid (show wordE [t] = ([], false) by simp [wordE, ht])
        obtain ⟨k, z⟩ := t
        simp only at c1 d1 c2 d2 HE ht
        have C := Lib.hid (is1_any k ⟨z.toArray⟩ 1 3 false (decide_eq_false ht) w)
        clear ht
        generalize hts : wordE [(k, z)] = v at *
        go_enter Tryd.func18, Tryd.ntmps18
        go_wp2_with fail
        refine C.out.mono ?_
        rintro e w1 ⟨rfl, hb1⟩
        clear c1 c2 d1 d2
        go_wp2
        go_ret2
        rw [HE.out]
        exact ⟨rfl, hb1⟩
  · rw [wordE_len h1]
    have q : ((ts.length : Int) != 1) = true := by simp; omega
    have q' : ((ts.length : Int) == 1) = false := by rw [beq_eq_false_iff_ne]; omega
    clear hr h1
    go_enter Tryd.func18, Tryd.ntmps18
    go_wp2
    go_ret2
    exact ⟨rfl, Below.refl _ _⟩
theorem own_nil (t : TypeId) (w : World) (base : Nat) : Own t w base none 0 [] := ⟨rfl, .inl ⟨rfl, rfl⟩⟩
set_option maxRecDepth 100000 in
set_option maxHeartbeats 1000000 in
theorem fresh_any (A : Option Addr) (n c : Nat) (ts : List Tok) (w : World) (hr : Rd w A ts) (hn : n = ts.length) (hl : ts.length ≤ 200000) :
    Calls Tryd.prog 39 #[.slice A n c] w (Res 41 w ts) := by
  have HO := Lib.hid (own_nil 41 w w.heap.size)
  have HR := Lib.hid hr
  have HN := Lib.hid hn
  clear hr hn
  go_enter Tryd.func39, Tryd.ntmps39
  go_wp2_with (at_builtin; refine wpList_append_rdn37 _ rfl _ _ rfl w.heap.size _ [] rfl HO.out A n c ts HN.out rfl HR.out (by simpa using hl) (Nat.le_refl _) ts rfl ?_; intro N2 nc2 w3 hown2 hb3)
  go_ret
  exact ⟨N2, nc2, rfl, hown2, hb3⟩
end Go.Proofs.YtjneeikkakekjaaDoor
