/-
  Package macro: parts of a slice, slices.Index and Contains of numbers, is, place, skip, Word, fresh.
  Package macro: Group.
  Package macro: Args; the document's Args.
  The document's Args.
  Contracts of the document's answer for layer 8: the same notes, the same words, was a file asked for.
-/
import Derived.Test.YtckldeabbkdbjaaDoorK05
import Derived.BigQuiet
namespace Go.Proofs.YtckldeabbkdbjaaDoor
open Go.RowKit

/-- Where a part of a slice begins; s cells an element. -/
def cutS (s : Nat) (A : Option Addr) (c k : Nat) : Option Addr := if c = k then A else A.map (·.add (k * s))
theorem sz_run {e : TypeId} {z : Value} {s b : Nat} (h : (Tryd.prog.info? e).map (fun i => (i.zero, i.size, i.bytes)) = some (some z, s, b)) (w : World) : (sizeOf e).run Tryd.prog w = .ok s w := by
  obtain ⟨i0, hi, hz0, hz1, hz2⟩ := info_parts h
  simp [sizeOf, typeInfo, hi, hz1]
theorem part_lh (t e : TypeId) (s : Nat) (hT : Tryd.prog.underlying t = some (.slice (Tryd.prog.elem t))) (he : Tryd.prog.elem t = e) (hs : ∀ w, (sizeOf e).run Tryd.prog w = .ok s w)
    (A : Option Addr) (n c l h : Nat) (h1 : l ≤ h) (h2 : h ≤ c) (w : World) : (Instr.slice t (.slice A n c) (some (.int .i64 l)) (some (.int .i64 h)) none).run Tryd.prog w = .ok (.slice (cutS s A c l) (h - l) (c - l)) w := by
  rw [run_slice_lh (P := Tryd.prog) w t A n c hT .i64 .i64 l h (by omega) (by omega) (by omega), he, hs]
  simp [sliced, Result.andThen, cutS]
theorem part_l (t e : TypeId) (s : Nat) (hT : Tryd.prog.underlying t = some (.slice (Tryd.prog.elem t))) (he : Tryd.prog.elem t = e) (hs : ∀ w, (sizeOf e).run Tryd.prog w = .ok s w)
    (A : Option Addr) (n c l : Nat) (h1 : l ≤ n) (w : World) : (Instr.slice t (.slice A n c) (some (.int .i64 l)) none none).run Tryd.prog w = .ok (.slice (cutS s A c l) (n - l) (c - l)) w := by
  rw [run_slice_l (P := Tryd.prog) w t A n c hT .i64 l (by omega) (by omega), he, hs]
  simp [sliced, Result.andThen, cutS]
theorem part_h (t e : TypeId) (s : Nat) (hT : Tryd.prog.underlying t = some (.slice (Tryd.prog.elem t))) (he : Tryd.prog.elem t = e) (hs : ∀ w, (sizeOf e).run Tryd.prog w = .ok s w)
    (A : Option Addr) (n c h : Nat) (h2 : h ≤ c) (w : World) : (Instr.slice t (.slice A n c) none (some (.int .i64 h)) none).run Tryd.prog w = .ok (.slice A h c) w := by
  rw [run_slice_h (P := Tryd.prog) w t A n c hT .i64 h (by omega) (by omega), he, hs]
  simp [sliced, Result.andThen]
  cases A <;> simp [Addr.add]
theorem tok_part {A : Option Addr} {n c l h : Nat} (h1 : l ≤ h) (h2 : h ≤ c) (w : World) : (Instr.slice 22 (.slice A n c) (some (.int .i64 l)) (some (.int .i64 h)) none).run Tryd.prog w = .ok (.slice (cutS 2 A c l) (h - l) (c - l)) w :=
  part_lh 22 48 2 (by kernel_rfl) (by kernel_rfl) (sz_run Tryd.info48) A n c l h h1 h2 w
theorem tok_from {A : Option Addr} {n c l : Nat} (h1 : l ≤ n) (w : World) : (Instr.slice 22 (.slice A n c) (some (.int .i64 l)) none none).run Tryd.prog w = .ok (.slice (cutS 2 A c l) (n - l) (c - l)) w :=
  part_l 22 48 2 (by kernel_rfl) (by kernel_rfl) (sz_run Tryd.info48) A n c l h1 w
theorem tok_to {A : Option Addr} {n c h : Nat} (h2 : h ≤ c) (w : World) : (Instr.slice 22 (.slice A n c) none (some (.int .i64 h)) none).run Tryd.prog w = .ok (.slice A h c) w :=
  part_h 22 48 2 (by kernel_rfl) (by kernel_rfl) (sz_run Tryd.info48) A n c h h2 w
theorem rtok_part {A : Option Addr} {n c l h : Nat} (h1 : l ≤ h) (h2 : h ≤ c) (w : World) : (Instr.slice 32 (.slice A n c) (some (.int .i64 l)) (some (.int .i64 h)) none).run Tryd.prog w = .ok (.slice (cutS 2 A c l) (h - l) (c - l)) w :=
  part_lh 32 65 2 (by kernel_rfl) (by kernel_rfl) (sz_run Tryd.info65) A n c l h h1 h2 w
theorem Rd.part {w : World} {A : Option Addr} {fs : List Tok} (h : Rd w A fs) {l m c : Nat} (hm : l + m ≤ fs.length) (hc : fs.length ≤ c) : Rd w (cutS 2 A c l) ((fs.drop l).take m) := fun h0 => by
  have hl : 0 < m := by
    rw [List.length_take] at h0; omega
  obtain ⟨b, o, rfl, hcell⟩ := h (by omega)
  unfold cutS
  rw [if_neg (by omega), Option.map_some, add_lit]
  refine ⟨b, o + l * 2, rfl, fun i f hi => ?_⟩
  have hi2 : fs[l + i]? = some f := by
    rw [List.getElem?_take] at hi
    split at hi
    · rw [List.getElem?_drop] at hi; exact hi
    · cases hi
  obtain ⟨h1, h2⟩ := hcell _ f hi2
  rw [show o + l * 2 + i * 2 = o + (l + i) * 2 by omega]
  exact ⟨h1, h2⟩
theorem Rd.take {w : World} {A : Option Addr} {fs : List Tok} (h : Rd w A fs) (m : Nat) : Rd w A (fs.take m) := fun h0 => by
  obtain ⟨b, o, rfl, hcell⟩ := h (by rw [List.length_take] at h0; omega)
  refine ⟨b, o, rfl, fun i f hi => ?_⟩
  rw [List.getElem?_take] at hi
  split at hi
  · exact hcell i f hi
  · cases hi

/-- Numbers in a block. -/
def RdI (w : World) (g : Nat) (ks : List Int) : Prop := ∀ i k, ks[i]? = some k → w.cell? ⟨g, i, none⟩ = some (.int .i64 k)
/-- A place, or a number below none. -/
def IdxPost (b : Bool) (w : World) (e : Ending) (w' : World) : Prop := (∃ v : Int, e = .returned (.int .i64 v) ∧ decide (0 ≤ v) = b) ∧ w = w'
set_option maxRecDepth 100000 in
set_option maxHeartbeats 1000000 in
theorem sindex_any (g n : Nat) (ks : List Int) (x : Int) (w : World) (hr : Hid (RdI w g ks)) (hn : n = ks.length) (hl : ks.length ≤ 1000) :
    Calls Tryd.prog 83 #[.slice (some ⟨g, 0, none⟩) n n, .int .i64 x] w (IdxPost (decide (x ∈ ks)) w) := by
  subst hn
  go_enter Tryd.func83, Tryd.ntmps83
  go_wp2
  go_loop [8] (fun i => ∃ k : Nat, k ≤ ks.length ∧ i = .int .i64 k ∧ Hid (x ∉ ks.take k)) (fun i => ks.length - (intOf i).toNat)
  case atStart => exact ⟨0, Nat.zero_le _, rfl, Lib.hid (by simp)⟩
  case round =>
    obtain ⟨k, hk, rfl, HX⟩ := hrel
    by_cases hlt : k < ks.length
    · obtain ⟨y, hy⟩ : ∃ y, ks[k]? = some y := ⟨_, List.getElem?_eq_getElem hlt⟩
      have c1 := hr.out k y hy
      have i1 : (k : Int) < (ks.length : Int) := by omega
      by_cases hxy : x = y
      · have HI := Lib.hid (show x ∈ ks by rw [hxy]; exact List.mem_of_getElem? hy)
        have q : (x == y) = true := by simpa using hxy
        clear hy HX hxy
        go_wp2
        go_ret
        exact ⟨⟨k, rfl, by rw [decide_eq_true HI.out]; exact decide_eq_true (by omega)⟩, rfl⟩
      · have HN := Lib.hid (show x ∉ ks.take (k + 1) by
          rw [at_take hy, List.mem_append]
          rintro (h | h)
          · exact HX.out h
          · simp at h; exact hxy h)
        have q : (x == y) = false := by simpa using hxy
        clear hy HX hxy
        go_wp2
        go_round
        case rel => exact ⟨k + 1, by omega, by go_num, HN⟩
        case measure => simp [intOf]; omega
    · have hfin := HX.out
      rw [List.take_of_length_le (by omega)] at hfin
      have HF := Lib.hid hfin
      have i1 : ¬ (k : Int) < (ks.length : Int) := by omega
      clear HX hfin
      go_wp2
      go_ret
      exact ⟨⟨-1, rfl, by rw [decide_eq_false HF.out]; rfl⟩, rfl⟩
set_option maxRecDepth 100000 in
set_option maxHeartbeats 1000000 in
theorem scont_any (g n : Nat) (ks : List Int) (x : Int) (w : World) (hr : Hid (RdI w g ks)) (hn : n = ks.length) (hl : ks.length ≤ 1000) :
    Calls Tryd.prog 73 #[.slice (some ⟨g, 0, none⟩) n n, .int .i64 x] w fun e w' => e = .returned (.bool (decide (x ∈ ks))) ∧ w = w' := by
  have C := Lib.hid (sindex_any g n ks x w hr hn hl)
  generalize decide (x ∈ ks) = b at *
  clear hr hn hl
  go_enter Tryd.func73, Tryd.ntmps73
  go_wp2_with fail
  refine C.out.mono ?_
  rintro e w' ⟨⟨v, rfl, hv⟩, rfl⟩
  have HV := Lib.hid hv
  clear hv
  go_wp2
  go_ret
  exact ⟨ret_bool (by first | exact HV.out | (rw [← HV.out]; rfl)), rfl⟩
theorem RdI.below {w w' : World} {g : Nat} {ks : List Int} (h : RdI w g ks) (hb : Below w.heap.size w w') : RdI w' g ks := fun i k hi => cell_below hb (h i k hi)
set_option maxRecDepth 100000 in
set_option maxHeartbeats 1000000 in
theorem is_any (κ : Int) (z : ByteArray) (g n : Nat) (ks : List Int) (w : World) (hr : RdI w g ks) (hn : n = ks.length) (hl : ks.length ≤ 1000) :
    Calls Tryd.prog 67 #[.agg #[.int .i64 κ, .string z], .slice (some ⟨g, 0, none⟩) n n] w fun e w' => e = .returned (.bool (decide (κ ∈ ks))) ∧ Below w.heap.size w w' := by
  have hb := one_below w (.cells #[.int .i64 κ, .string z] 48)
  have C := Lib.hid (scont_any g n ks κ (w.alloc (.cells #[.int .i64 κ, .string z] 48)) (Lib.hid (hr.below hb)) hn hl)
  have HB := Lib.hid hb
  generalize decide (κ ∈ ks) = b at *
  clear hr hn hl hb
  go_enter Tryd.func67, Tryd.ntmps67
  go_wp2_with fail
  refine C.out.mono ?_
  rintro e w' ⟨rfl, rfl⟩
  go_wp2
  go_ret
  exact ⟨rfl, HB.out⟩
set_option maxRecDepth 100000 in
theorem is1_any (κ : Int) (z : ByteArray) (k : Int) (t : TypeId) (b : Bool) (hb : decide (κ = k) = b) (w : World) :
    Calls Tryd.prog 67 #[.agg #[.int .i64 κ, .string z], .slice (some ⟨w.heap.size, 0, none⟩) 1 1] (w.alloc (.cells #[.int .i64 k] t)) fun e w' => e = .returned (.bool b) ∧ Below w.heap.size w w' := by
  refine (is_any κ z w.heap.size 1 [k] (w.alloc (.cells #[.int .i64 k] t)) (fun i y hi => ?_) rfl (by simp)).mono ?_
  · match i, hi with
    | 0, hi => simp at hi; subst hi; exact new_one _ _ _
    | i + 1, hi => simp at hi
  · rintro e w' ⟨rfl, h⟩
    refine ⟨by rw [← hb]; simp, bch (one_below w _) h⟩
set_option maxRecDepth 100000 in
theorem is2_any (κ : Int) (z : ByteArray) (k j : Int) (t : TypeId) (b : Bool) (hb : decide (κ = k ∨ κ = j) = b) (w : World) :
    Calls Tryd.prog 67 #[.agg #[.int .i64 κ, .string z], .slice (some ⟨w.heap.size, 0, none⟩) 2 2] (w.alloc (.cells #[.int .i64 k, .int .i64 j] t)) fun e w' => e = .returned (.bool b) ∧ Below w.heap.size w w' := by
  refine (is_any κ z w.heap.size 2 [k, j] (w.alloc (.cells #[.int .i64 k, .int .i64 j] t)) (fun i y hi => ?_) rfl (by simp)).mono ?_
  · match i, hi with
    | 0, hi => simp at hi; subst hi; exact new_fst _ _ _ _
    | 1, hi => simp at hi; subst hi; exact new_snd _ _ _ _
    | i + 2, hi => simp at hi
  · rintro e w' ⟨rfl, h⟩
    refine ⟨by rw [← hb]; simp, bch (one_below w _) h⟩
set_option maxRecDepth 100000 in
theorem place_any (A : Option Addr) (c n : Nat) (x : Int) (w : World) (_hl : n ≤ 200000) :
    Calls Tryd.prog 63 #[.slice A n c, .int .i64 x] w fun e w' => e = .returned (.bool (decide (0 ≤ x ∧ x ≤ n))) ∧ w = w' := by
  by_cases h1 : 0 ≤ x
  · by_cases h2 : x ≤ n
    · rw [decide_eq_true ⟨h1, h2⟩]
      go_enter Tryd.func63, Tryd.ntmps63
      go_wp2
      go_ret
      exact ⟨rfl, rfl⟩
    · rw [decide_eq_false (fun h => h2 h.2)]
      go_enter Tryd.func63, Tryd.ntmps63
      go_wp2
      go_ret
      exact ⟨rfl, rfl⟩
  · rw [decide_eq_false (fun h => h1 h.1)]
    go_enter Tryd.func63, Tryd.ntmps63
    go_wp2
    go_ret
    exact ⟨rfl, rfl⟩
set_option maxRecDepth 100000 in
set_option maxHeartbeats 2000000 in
theorem skip_any (A : Option Addr) (c : Nat) (ts : List Tok) (a : Nat) (w : World) (hr : Rd w A ts) (hl : ts.length ≤ 200000) (ha : a ≤ ts.length) :
    Calls Tryd.prog 64 #[.slice A ts.length c, .int .i64 a] w fun e w' => e = .returned (.int .i64 (skipN ts a)) ∧ Below w.heap.size w w' := by
  obtain ⟨N, hN⟩ : ∃ N, skipN ts a = N := ⟨_, rfl⟩
  rw [hN]
  have HN := Lib.hid hN
  clear hN
  have hb0 := Below.refl w.heap.size w
  go_enter Tryd.func64, Tryd.ntmps64
  go_wp2
  go_loopw [1] (fun i wr => ∃ k : Nat, k ≤ ts.length ∧ i = .int .i64 k ∧ Hid (skipN ts k = N) ∧ Below w.heap.size w wr) (fun i _ => ts.length - (intOf i).toNat)
  case atStart => exact ⟨a, ha, rfl, HN, hb0⟩
  case round =>
    obtain ⟨k, hk, rfl, HK, hb⟩ := hrel
    clear hb0
    by_cases hlt : k < ts.length
    · obtain ⟨b, o, rfl, hcell⟩ := (hr.below hb) (by omega)
      obtain ⟨f, hf⟩ : ∃ f, ts[k]? = some f := ⟨_, List.getElem?_eq_getElem hlt⟩
      obtain ⟨c1, c2⟩ := hcell k f hf
      have i1 : (k : Int) < (ts.length : Int) := by omega
      by_cases h2 : f.1 = 2
      · have HS := Lib.hid ((skip_step hf h2).symm.trans HK.out)
        have C := Lib.hid (is1_any f.1 ⟨f.2.toArray⟩ 2 3 true (decide_eq_true h2) wr)
        clear hf hcell h2 HK
        go_wp2_with fail
        refine C.out.mono ?_
        rintro e w1 ⟨rfl, hb1⟩
        have hb2 := bch hb hb1
        clear hb hb1 c1 c2
        go_wp2
        go_roundw
        case rel => exact ⟨k + 1, by omega, by go_num, HS, hb2⟩
        case measure => simp [intOf]; omega
      · have HS := Lib.hid ((skip_stop hf h2).symm.trans HK.out)
        have C := Lib.hid (is1_any f.1 ⟨f.2.toArray⟩ 2 3 false (decide_eq_false h2) wr)
        clear hf hcell h2 HK
        go_wp2_with fail
        refine C.out.mono ?_
        rintro e w1 ⟨rfl, hb1⟩
        have hb2 := bch hb hb1
        clear hb hb1 c1 c2
        go_wp2
        go_ret
        exact ⟨ret_eq (int_eq (by have := HS.out; omega)), hb2⟩
    · have HS := Lib.hid ((skip_end (by omega)).symm.trans HK.out)
      have i1 : ¬ (k : Int) < (ts.length : Int) := by omega
      clear HK
      go_wp2
      go_ret
      exact ⟨ret_eq (int_eq (by have := HS.out; omega)), hb⟩
theorem own_nil (t : TypeId) (w : World) (base : Nat) : Own t w base none 0 [] := ⟨rfl, .inl ⟨rfl, rfl⟩⟩
set_option maxRecDepth 100000 in
set_option maxHeartbeats 1000000 in
theorem fresh_any (A : Option Addr) (n c : Nat) (ts : List Tok) (w : World) (hr : Rd w A ts) (hn : n = ts.length) (hl : ts.length ≤ 200000) :
    Calls Tryd.prog 66 #[.slice A n c] w (Res 48 w ts) := by
  have HO := Lib.hid (own_nil 48 w w.heap.size)
  have HR := Lib.hid hr
  have HN := Lib.hid hn
  clear hr hn
  go_enter Tryd.func66, Tryd.ntmps66
  go_wp2_with (at_builtin; refine wpList_append_rdn37 _ rfl _ _ rfl w.heap.size _ [] rfl HO.out A n c ts HN.out rfl HR.out (by simpa using hl) (Nat.le_refl _) ts rfl ?_; intro N2 nc2 w3 hown2 hb3)
  go_ret
  exact ⟨N2, nc2, rfl, hown2, hb3⟩
end Go.Proofs.YtckldeabbkdbjaaDoor

namespace Go.Proofs.YtckldeabbkdbjaaDoor
open Go.RowKit

/-- Place and error, and what was there is kept. -/
def GrpPost2 (w : World) (p : Int × Int) (e : Ending) (w' : World) : Prop := e = .returned (.tuple #[.int .i64 p.1, .int .i64 p.2]) ∧ Below w.heap.size w w'
/-- The array of counts. -/
def arr (o c : Int) : Array Value := #[.int .i64 0, .int .i64 0, .int .i64 0, .int .i64 0, .int .i64 0, .int .i64 o, .int .i64 c, .int .i64 0]
theorem arr_set5 (o c v : Int) : (arr o c).setIfInBounds 5 (.int .i64 v) = arr v c := rfl
theorem arr_set6 (o c v : Int) : (arr o c).setIfInBounds 6 (.int .i64 v) = arr o v := rfl
theorem grp_tail {ts us : List Tok} {a : Nat} {t : Tok} (hu : ts.drop a = us) (h : ts[a]? = some t) (h5 : t.1 = 5) : grpN ts a = (endG 0 us).map (· + a) := by
  rw [← hu]; exact (grp_begin h h5).symm
theorem Rd.drop {w : World} {A : Option Addr} {fs : List Tok} (h : Rd w A fs) {l c : Nat} (hm : l ≤ fs.length) (hc : fs.length ≤ c) : Rd w (cutS 2 A c l) (fs.drop l) := by
  have := h.part (l := l) (m := fs.length - l) (c := c) (by omega) hc
  rwa [List.take_of_length_le (by simp)] at this
theorem cell_arr {w : World} {g : Nat} {o c : Int} {t : TypeId} (h : w.heap[g]? = some (.cells (arr o c) t (0, 0))) : w.cell? ⟨g, 5, none⟩ = some (.int .i64 o) ∧ w.cell? ⟨g, 6, none⟩ = some (.int .i64 c) := ⟨cell_of h 5, cell_of h 6⟩
set_option maxRecDepth 100000 in
set_option maxHeartbeats 8000000 in
theorem group_any (A : Option Addr) (c : Nat) (ts : List Tok) (x : Int) (w : World) (hr : Rd w A ts) (hl : ts.length ≤ 200000) (hcap : ts.length ≤ c) (_hc63 : c ≤ 9223372036854775807) :
    Calls Tryd.prog 65 #[.slice A ts.length c, .int .i64 x] w (GrpPost2 w (grpE ts x)) := by
  have CP := Lib.hid (place_any A c ts.length x w hl)
  have hbr := Below.refl w.heap.size w
  rcases (show x < 0 ∨ (ts.length : Int) < x ∨ x = (ts.length : Int) ∨ ∃ a : Nat, x = (a : Int) ∧ a < ts.length by
    by_cases h : x < 0
    · exact .inl h
    · by_cases h2 : (ts.length : Int) < x
      · exact .inr (.inl h2)
      · by_cases h3 : x = (ts.length : Int)
        · exact .inr (.inr (.inl h3))
        · exact .inr (.inr (.inr ⟨x.toNat, by omega, by omega⟩))) with h | h | h | ⟨a, rfl, ha⟩
  · rw [grpE_out (.inl h)]
    rw [decide_eq_false (by omega)] at CP
    clear h
    go_enter Tryd.func65, Tryd.ntmps65
    go_wp2_with fail
    refine CP.out.mono ?_
    rintro e w' ⟨rfl, rfl⟩
    go_wp2
    go_ret2
    exact ⟨rfl, hbr⟩
  · rw [grpE_out (.inr h)]
    rw [decide_eq_false (by omega)] at CP
    clear h
    go_enter Tryd.func65, Tryd.ntmps65
    go_wp2_with fail
    refine CP.out.mono ?_
    rintro e w' ⟨rfl, rfl⟩
    go_wp2
    go_ret2
    exact ⟨rfl, hbr⟩
  · subst h
    rw [grpE_in (Nat.le_refl _), grp_out (Nat.le_refl _), show grpP none = (0, 10) from rfl]
    rw [decide_eq_true (by omega)] at CP
    have q : ((ts.length : Int) == (ts.length : Int)) = true := by simp
    go_enter Tryd.func65, Tryd.ntmps65
    go_wp2_with fail
    refine CP.out.mono ?_
    rintro e w' ⟨rfl, rfl⟩
    go_wp2
    go_ret2
    exact ⟨rfl, hbr⟩
  · rw [grpE_in (by omega)]
    rw [decide_eq_true (by omega)] at CP
    have hr2 := hr
    obtain ⟨b, o, rfl, hcell⟩ := hr (by omega)
    obtain ⟨f, hf⟩ : ∃ f, ts[a]? = some f := ⟨_, List.getElem?_eq_getElem ha⟩
    obtain ⟨c1, c2⟩ := hcell a f hf
    clear hcell
    have i1 : (a : Int) < (ts.length : Int) := by omega
    have q : ((a : Int) == (ts.length : Int)) = false := by rw [beq_eq_false_iff_ne]; omega
    by_cases h5 : f.1 = 5
    · obtain ⟨us, hu⟩ : ∃ us, ts.drop a = us := ⟨_, rfl⟩
      have hG := grp_tail hu hf h5
      have hul : us.length = ts.length - a := by rw [← hu]; simp
      have hu0 : us[0]? = some f := by rw [← hu, List.getElem?_drop]; exact hf
      have hcut := tok_from (A := some ⟨b, o, none⟩) (n := ts.length) (c := c) (l := a) (by omega)
      have hrd := hr2.drop (l := a) (c := c) (by omega) hcap
      rw [hu] at hrd
      rw [← hul] at hcut
      generalize cutS 2 (some ⟨b, o, none⟩) c a = B at *
      rw [hG]
      obtain ⟨G, hGG⟩ : ∃ G, endG 0 us = G := ⟨_, rfl⟩
      rw [hGG] at hG ⊢
      have HG := Lib.hid (show (endG 0 (us.drop 0)).map (· + 0) = G by rw [← hGG]; simp)
      have HF := Lib.hid (And.intro hu0 h5)
      have C1 := Lib.hid (is1_any f.1 ⟨f.2.toArray⟩ 5 3 true (decide_eq_true h5) w)
      have HRD := Lib.hid hrd
      have HUL := Lib.hid hul
      have hul2 : us.length ≤ 200000 := by omega
      clear hGG hG hf h5 hu0 hu hrd hr hr2 hul
      go_enter Tryd.func65, Tryd.ntmps65
      go_wp2_with fail
      refine CP.out.mono ?_
      rintro e w' ⟨rfl, rfl⟩
      go_wp2_with fail
      refine C1.out.mono ?_
      rintro e w1 ⟨rfl, hb1⟩
      have hk0 := heap_alloc_new w1 (.cells (arr 0 0) 118)
      have hk1 := one_below w1 (.cells (arr 0 0) 118)
      have HK0 := Lib.hid hk0
      have HK1 := Lib.hid hk1
      clear hk0 hk1 c1 c2 C1
      go_wp2
      go_loopw [30] (fun v wr => ∃ (i p d : Nat), v = .int .i64 i ∧ i ≤ us.length ∧ p + d ≤ i ∧ (d = 0 → i = 0) ∧ Hid ((endG d (us.drop i)).map (· + i) = G) ∧ Hid (wr.heap[w1.heap.size]? = some (.cells (arr (p + d : Nat) p) 118 (0, 0))) ∧ Hid (Below w1.heap.size w1 wr)) (fun v _ => us.length - (intOf v).toNat)
      case atStart => exact ⟨0, 0, 0, rfl, Nat.zero_le _, Nat.le_refl _, fun _ => rfl, HG, HK0, HK1⟩
      case round =>
        clear HK0 HK1 HG
        obtain ⟨i, p, d, rfl, hi, hpd, hd0, HE, HK, HB⟩ := hrel
        have hbw : Below w.heap.size w wr := hb1.trans (HB.out.mono hb1.size)
        by_cases hlt : i < us.length
        · obtain ⟨bb, oo, rfl, hcell⟩ := (HRD.out.below hbw) (by omega)
          obtain ⟨g, hg⟩ : ∃ g, us[i]? = some g := ⟨_, List.getElem?_eq_getElem hlt⟩
          obtain ⟨e1, e2⟩ := hcell i g hg
          have hst := end_step hg HE.out
          have i2 : (i : Int) < (us.length : Int) := by omega
          have hga : d = 0 → g.1 = 5 := fun h => by
            have e := hd0 h
            subst e
            have := HF.out.1.symm.trans hg
            rw [← Option.some.inj this]; exact HF.out.2
          have HBW := Lib.hid hbw
          have o1 := one_below wr (.cells #[.int .i64 g.1, .string ⟨g.2.toArray⟩] 48)
          have n1 := new_fst wr (.int .i64 g.1) (.string ⟨g.2.toArray⟩) 48
          have hk2 := blk_below o1 HK.out
          have hlt1 : w1.heap.size < wr.heap.size := lt_of_blk HK.out
          have HKK := Lib.hid hk2
          have HNN := Lib.hid n1
          have HB2 := Lib.hid (HB.out.trans (o1.mono (by omega : w1.heap.size ≤ wr.heap.size)))
          have hsz : (wr.alloc (.cells #[.int .i64 g.1, .string ⟨g.2.toArray⟩] 48)).heap.size = wr.heap.size + 1 := by simp
          have HLT := Lib.hid hlt1
          clear hd0 HE hg hcell hbw o1 n1 hk2 HK HB hlt1
          by_cases g5 : g.1 = 5
          · have C2 := is2_any g.1 ⟨g.2.toArray⟩ 5 6 3 true (decide_eq_true (.inl g5)) (wr.alloc (.cells #[.int .i64 g.1, .string ⟨g.2.toArray⟩] 48))
            have hd : dep d g = d + 1 := by simp [dep, g5]
            rw [hd] at hst
            rcases hst with ⟨h, _⟩ | ⟨_, hst⟩
            · omega
            · have HN := Lib.hid hst
              rw [hsz] at C2
              have CC := Lib.hid C2
              have q2 : (((p + d + 1 : Nat) : Int) == (p : Int)) = false := by rw [beq_eq_false_iff_ne]; omega
              have q3 : ((p : Int) + (d : Int) + 1 == (p : Int)) = false := by rw [beq_eq_false_iff_ne]; omega
              have G5 := Lib.hid g5
              have HSZ := Lib.hid hsz
              clear hst hd hga g5 C2 hsz
              go_wp2_with fail
              refine CC.out.mono ?_
              rintro e w3 ⟨rfl, hb3⟩
              have hb3' : Below (wr.alloc (.cells #[.int .i64 g.1, .string ⟨g.2.toArray⟩] 48)).heap.size (wr.alloc (.cells #[.int .i64 g.1, .string ⟨g.2.toArray⟩] 48)) w3 := by rw [HSZ.out]; exact hb3
              have k3 := blk_below hb3' HKK.out
              have n3 := cell_below hb3' HNN.out
              rw [G5.out] at n3
              obtain ⟨a5, a6⟩ := cell_arr k3
              have fz := frozen_of k3 5
              have hn5 := blk_set k3 5 (.int .i64 ((p + (d + 1) : Nat) : Int))
              rw [arr_set5] at hn5
              have HK5 := Lib.hid hn5
              have HB5 := Lib.hid ((HB2.out.trans (hb3'.mono (by rw [HSZ.out]; have := HLT.out; omega))).setCell (Nat.le_refl _) (p := ⟨w1.heap.size, 5, none⟩) (.int .i64 ((p + (d + 1) : Nat) : Int)))
              clear hb3 hb3' k3 hn5 CC HKK HNN HB2 e1 e2
              go_wp2
              go_roundw
              case rel => exact ⟨i + 1, p, d + 1, by go_num, by omega, by omega, by omega, HN, HK5, HB5⟩
              case measure => simp [intOf]; omega
          · have hd1 : d ≠ 0 := fun h => g5 (hga h)
            by_cases g6 : g.1 = 6
            · have C2 := is2_any g.1 ⟨g.2.toArray⟩ 5 6 3 true (decide_eq_true (.inr g6)) (wr.alloc (.cells #[.int .i64 g.1, .string ⟨g.2.toArray⟩] 48))
              have hd : dep d g = d - 1 := by simp [dep, g6]
              rw [hd] at hst
              rw [hsz] at C2
              have CC := Lib.hid C2
              obtain ⟨k, rfl⟩ : ∃ k, d = k + 1 := ⟨d - 1, by omega⟩
              rw [Nat.add_sub_cancel] at hst
              have G6 := Lib.hid g6
              have HSZ := Lib.hid hsz
              have HST := Lib.hid hst
              clear hst hd hga g6 g5 C2 hsz hd1
              go_wp2_with fail
              refine CC.out.mono ?_
              rintro e w3 ⟨rfl, hb3⟩
              have hb3' : Below (wr.alloc (.cells #[.int .i64 g.1, .string ⟨g.2.toArray⟩] 48)).heap.size (wr.alloc (.cells #[.int .i64 g.1, .string ⟨g.2.toArray⟩] 48)) w3 := by rw [HSZ.out]; exact hb3
              have k3 := blk_below hb3' HKK.out
              have n3 := cell_below hb3' HNN.out
              rw [G6.out] at n3
              obtain ⟨a5, a6⟩ := cell_arr k3
              have fz := frozen_of k3 6
              have hn5 := blk_set k3 6 (.int .i64 ((p + 1 : Nat) : Int))
              rw [arr_set6, show p + (k + 1) = p + 1 + k by omega] at hn5
              have HK5 := Lib.hid hn5
              have HB5 := Lib.hid ((HB2.out.trans (hb3'.mono (by rw [HSZ.out]; have := HLT.out; omega))).setCell (Nat.le_refl _) (p := ⟨w1.heap.size, 6, none⟩) (.int .i64 ((p + 1 : Nat) : Int)))
              have HB6 := Lib.hid (hb1.trans (HB5.out.mono hb1.size))
              clear hb3 hb3' k3 hn5 CC HKK HNN HB2 e1 e2
              rcases Nat.eq_zero_or_pos k with h0 | h0
              · subst h0
                have HN := Lib.hid (HST.out.resolve_right (fun h => h.1 rfl)).2
                have q2 : (((p + (0 + 1) : Nat) : Int) == (p : Int) + 1) = true := by rw [beq_iff_eq]; omega
                have q3 : ((p : Int) + 1 == (p : Int) + 1) = true := by simp
                clear HST
                go_wp2
                go_ret2
                rw [HN.out]
                exact ⟨ret_two (int_eq (by show _ = ((i + 1 + a : Nat) : Int); omega)) rfl, HB6.out⟩
              · have HN := Lib.hid (HST.out.resolve_left (fun h => by omega)).2
                have q2 : (((p + (k + 1) : Nat) : Int) == (p : Int) + 1) = false := by rw [beq_eq_false_iff_ne]; omega
                have q3 : ((p : Int) + ((k : Int) + 1) == (p : Int) + 1) = false := by rw [beq_eq_false_iff_ne]; omega
                clear HST
                go_wp2
                go_roundw
                case rel => exact ⟨i + 1, p + 1, k, by go_num, by omega, by omega, by omega, HN, HK5, HB5⟩
                case measure => simp [intOf]; omega
            · have C2 := is2_any g.1 ⟨g.2.toArray⟩ 5 6 3 false (decide_eq_false (fun h => h.elim g5 g6)) (wr.alloc (.cells #[.int .i64 g.1, .string ⟨g.2.toArray⟩] 48))
              have hd : dep d g = d := by simp [dep, g5, g6]
              rw [hd] at hst
              rcases hst with ⟨h, _⟩ | ⟨_, hst⟩
              · exact absurd h hd1
              · have HN := Lib.hid hst
                rw [hsz] at C2
                have CC := Lib.hid C2
                have HSZ := Lib.hid hsz
                clear hst hd hga g5 g6 C2 hsz
                go_wp2_with fail
                refine CC.out.mono ?_
                rintro e w3 ⟨rfl, hb3⟩
                have hb3' : Below (wr.alloc (.cells #[.int .i64 g.1, .string ⟨g.2.toArray⟩] 48)).heap.size (wr.alloc (.cells #[.int .i64 g.1, .string ⟨g.2.toArray⟩] 48)) w3 := by rw [HSZ.out]; exact hb3
                have HK5 := Lib.hid (blk_below hb3' HKK.out)
                have HB5 := Lib.hid (HB2.out.trans (hb3'.mono (by rw [HSZ.out]; have := HLT.out; omega)))
                clear hb3 hb3' CC HKK HNN HB2 e1 e2
                go_wp2
                go_roundw
                case rel => exact ⟨i + 1, p, d, by go_num, by omega, by omega, fun h => absurd h hd1, HN, HK5, HB5⟩
                case measure => simp [intOf]; omega
        · have HN := Lib.hid (end_stop (by omega) HE.out)
          have i2 : ¬ (i : Int) < (us.length : Int) := by omega
          have HBW := Lib.hid hbw
          clear HE hbw HK HB
          go_wp2
          go_ret2
          rw [HN.out]
          exact ⟨rfl, HBW.out⟩
    · rw [grp_not hf h5, show grpP none = (0, 10) from rfl]
      have C1 := Lib.hid (is1_any f.1 ⟨f.2.toArray⟩ 5 3 false (decide_eq_false h5) w)
      clear hf h5 hr hr2
      go_enter Tryd.func65, Tryd.ntmps65
      go_wp2_with fail
      refine CP.out.mono ?_
      rintro e w' ⟨rfl, rfl⟩
      go_wp2_with fail
      refine C1.out.mono ?_
      rintro e w1 ⟨rfl, hb1⟩
      go_wp2
      go_ret2
      exact ⟨rfl, hb1⟩
end Go.Proofs.YtckldeabbkdbjaaDoor

namespace Go.Proofs.YtckldeabbkdbjaaDoor
open Go.RowKit

/-- Lists, a place and an error. -/
def ArgsPost (t : TypeId) (w : World) (r : List (List Tok) × Int × Int) (e : Ending) (w' : World) : Prop :=
  ∃ A c, e = .returned (.tuple #[.slice A r.1.length c, .int .i64 r.2.1, .int .i64 r.2.2]) ∧ OwnL t w' w.heap.size A c r.1 ∧ Below w.heap.size w w'
theorem ownL_nil (t : TypeId) (w : World) (base : Nat) : OwnL t w base none 0 [] := ⟨[], ⟨rfl, .inl ⟨rfl, rfl⟩⟩, fun i l hi => by simp at hi⟩
theorem argsE_in {l : List Tok} {a n : Nat} (h : a ≤ l.length) (hn : n ≤ 9) : argsE l a n = argsP (argsG l n a) := by
  unfold argsE
  rw [if_neg (by omega)]
  rfl
theorem argsE_out {l : List Tok} {a n : Int} (h : ¬ (0 ≤ a ∧ a ≤ (l.length : Int)) ∨ n < 0 ∨ 9 < n) : argsE l a n = ([], 0, 1) := by
  unfold argsE; rw [if_pos (by omega)]
theorem within_len {l : List Tok} {a p : Nat} (h : p ≤ l.length) (h2 : a + 2 ≤ p) : (within l a p).length = p - 1 - (a + 1) := by
  unfold within
  rw [List.length_take, List.length_drop]; omega
theorem ret_three {a b c d e f : Value} (h1 : a = d) (h2 : b = e) (h3 : c = f) : Ending.returned (.tuple #[a, b, c]) = .returned (.tuple #[d, e, f]) := by rw [h1, h2, h3]
theorem within_le {l : List Tok} {a p : Nat} : (within l a p).length ≤ l.length := by
  unfold within; rw [List.length_take, List.length_drop]; omega
set_option maxRecDepth 100000 in
set_option maxHeartbeats 8000000 in
theorem args_any (A : Option Addr) (c : Nat) (ts : List Tok) (x y : Int) (w : World) (hr : Rd w A ts) (hl : ts.length ≤ 100000) (hcap : ts.length ≤ c) (hc63 : c ≤ 9223372036854775807) :
    Calls Tryd.prog 49 #[.slice A ts.length c, .int .i64 x, .int .i64 y] w (ArgsPost 22 w (argsE ts x y)) := by
  have CP := Lib.hid (place_any A c ts.length x w (by omega))
  have HO0 := Lib.hid (ownL_nil 22 w w.heap.size)
  have HBR := Lib.hid (Below.refl w.heap.size w)
  by_cases hx : 0 ≤ x ∧ x ≤ ts.length
  · rw [decide_eq_true hx] at CP
    by_cases hy1 : y < 0
    · rw [argsE_out (.inr (.inl hy1))]
      go_enter Tryd.func49, Tryd.ntmps49
      go_wp2_with fail
      refine CP.out.mono ?_
      rintro e w' ⟨rfl, rfl⟩
      go_wp2
      go_ret3
      exact ⟨none, 0, rfl, HO0.out, HBR.out⟩
    · by_cases hy2 : 9 < y
      · rw [argsE_out (.inr (.inr hy2))]
        go_enter Tryd.func49, Tryd.ntmps49
        go_wp2_with fail
        refine CP.out.mono ?_
        rintro e w' ⟨rfl, rfl⟩
        go_wp2
        go_ret3
        exact ⟨none, 0, rfl, HO0.out, HBR.out⟩
      · obtain ⟨a, rfl⟩ : ∃ a : Nat, x = a := ⟨x.toNat, by omega⟩
        obtain ⟨n, rfl⟩ : ∃ n : Nat, y = n := ⟨y.toNat, by omega⟩
        have ha : a ≤ ts.length := by omega
        have hn : n ≤ 9 := by omega
        rw [argsE_in ha hn]
        obtain ⟨G, hG⟩ : ∃ G, argsG ts n a = G := ⟨_, rfl⟩
        rw [hG]
        have HG := Lib.hid (show (argsG ts (n - 0) a).map (fun x => ([] ++ x.1, x.2)) = G by rw [← hG]; simp)
        clear hG hx
        go_enter Tryd.func49, Tryd.ntmps49
        go_wp2_with fail
        refine CP.out.mono ?_
        rintro e w' ⟨rfl, rfl⟩
        go_wp2_with fail
        go_loopw [26, 9, 1] (fun v26 v9 v1 wr => ∃ (j p : Nat) (C : Option Addr) (cc : Nat) (out : List (List Tok)), v26 = .int .i64 j ∧ v9 = .slice C out.length cc ∧ v1 = .int .i64 p ∧ j ≤ n ∧ p ≤ ts.length ∧ out.length ≤ j ∧ Hid ((argsG ts (n - j) p).map (fun x => (out ++ x.1, x.2)) = G) ∧ Hid (OwnL 22 wr w.heap.size C cc out) ∧ Hid (Below w.heap.size w wr)) (fun v26 _ _ _ => n - (intOf v26).toNat)
        case atStart => exact ⟨0, a, none, 0, [], rfl, rfl, rfl, Nat.zero_le _, ha, Nat.le_refl _, HG, HO0, HBR⟩
        case round =>
          clear HG HO0 HBR CP
          obtain ⟨j, p, C, cc, out, rfl, rfl, rfl, hj, hp, hout, HE, HO, HB⟩ := hrel
          by_cases hlt : j < n
          · have i1 : (j : Int) < (n : Int) := by omega
            have hrw := hr.below HB.out
            have C1 := Lib.hid (skip_any A c ts p wr hrw (by omega) hp)
            obtain ⟨hs1, hs2⟩ := skip_le hp
            obtain ⟨s, hs⟩ : ∃ s, skipN ts p = s := ⟨_, rfl⟩
            rw [hs] at C1 hs1 hs2
            have hE := HE.out
            rw [show n - j = (n - (j + 1)) + 1 by omega] at hE
            cases hgr : grpN ts s with
            | none =>
              have HN := Lib.hid (args_stop (by rw [hs]; exact hgr) hE)
              have HGR := Lib.hid (show grpE ts s = (0, 10) by rw [grpE_in hs2, hgr]; rfl)
              clear hgr hE hs HE hrw
              go_wp2_with fail
              refine C1.out.mono ?_
              rintro e w1 ⟨rfl, hb1⟩
              have C2 := Lib.hid (group_any A c ts s w1 ((hr.below HB.out).below hb1) (by omega) hcap hc63)
              rw [HGR.out] at C2
              have HB1 := Lib.hid (bch HB.out hb1)
              clear hb1 HB C1 HO
              go_wp2_with fail
              refine C2.out.mono ?_
              rintro e w2 ⟨rfl, hb2⟩
              have HB2 := Lib.hid (bch HB1.out hb2)
              clear hb2 HB1 C2
              go_wp2
              go_ret3
              rw [HN.out]
              exact ⟨none, 0, rfl, ownL_nil _ _ _, HB2.out⟩
            | some q =>
              obtain ⟨hq1, hq2, hq3, _⟩ := grp_some hgr
              have hst := args_step (by rw [hs]; exact hgr) hE
              rw [hs] at hst
              have hwl := within_len hq3 hq2
              have hpart := fun w => tok_part (A := A) (n := ts.length) (c := c) (l := s + 1) (h := q - 1) (by omega) (by omega) w
              rw [show ((s + 1 : Nat) : Int) = (s : Int) + 1 by omega, show ((q - 1 : Nat) : Int) = (q : Int) - 1 by omega] at hpart
              have hrp : Rd wr (cutS 2 A c (s + 1)) (within ts s q) := hrw.part (by omega) hcap
              obtain ⟨i, hi⟩ : ∃ i, within ts s q = i := ⟨_, rfl⟩
              have hil : i.length ≤ 100000 := by rw [← hi]; have := within_le (l := ts) (a := s) (p := q); omega
              rw [hi] at hst hwl hrp
              rw [← hwl] at hpart
              generalize cutS 2 A c (s + 1) = B at *
              generalize c - (s + 1) = d at *
              obtain ⟨o2, ho2⟩ : ∃ o2, out ++ [i] = o2 := ⟨_, rfl⟩
              rw [ho2] at hst
              have HN := Lib.hid hst
              have HYL := Lib.hid (show o2.length = out.length + 1 by rw [← ho2]; simp)
              have HY := Lib.hid ho2
              have HGR := Lib.hid (show grpE ts s = ((q : Int), 0) by rw [grpE_in hs2, hgr]; rfl)
              have HRP := Lib.hid hrp
              have HQ := Lib.hid hq3
              clear hgr hE hs HE hrw hst hrp hi ho2 hwl
              go_wp2_with fail
              refine C1.out.mono ?_
              rintro e w1 ⟨rfl, hb1⟩
              have C2 := Lib.hid (group_any A c ts s w1 ((hr.below HB.out).below hb1) (by omega) hcap hc63)
              rw [HGR.out] at C2
              have HB1 := Lib.hid (bch HB.out hb1)
              have HO1 := Lib.hid (HO.out.below hb1)
              have HR1 := Lib.hid (HRP.out.below hb1)
              clear hb1 HB C1 HO HRP
              go_wp2_with fail
              refine C2.out.mono ?_
              rintro e w2 ⟨rfl, hb2⟩
              have HB2 := Lib.hid (bch HB1.out hb2)
              have HO2 := Lib.hid (HO1.out.below hb2)
              have C3 := Lib.hid (fresh_any B i.length d i w2 (HR1.out.below hb2) rfl (by omega))
              clear hb2 HB1 C2 HO1 HR1
              go_wp2_with fail
              refine C3.out.mono ?_
              rintro e w3 ⟨B2, d2, rfl, ho3, hb3⟩
              have SB := bch hb3 (one_below w3 (.cells #[.slice B2 i.length d2] 22))
              have HO3 := Lib.hid (HO2.out.below SB)
              have HB3 := Lib.hid (bch HB2.out SB)
              have HR3 := Lib.hid (ho3.rd.below (one_below w3 (.cells #[.slice B2 i.length d2] 22)))
              have HF3 := Lib.hid (own_far ho3 HO2.out.lt)
              clear HO2 hb3 SB C3 ho3 HB2
              go_wp2_with (at_builtin; refine wpList_append_l 96 22 Tryd.underlying96 Tryd.infoL22 _ rfl _ _ rfl w.heap.size C cc out rfl HO3.out w3.heap.size B2 d2 i rfl (new_one _ _ _) HR3.out HF3.out (by omega) HB3.out.size o2 HY.out ?_; intro N2 nc2 w4 hown4 hb4)
              have HB4 := Lib.hid (HB3.out.trans hb4)
              have HO4 := Lib.hid hown4
              clear HO3 HB3 hb4 hown4
              go_roundw
              case rel => exact ⟨j + 1, q, N2, nc2, o2, by go_num, rfl, rfl, by omega, HQ.out, by have := HYL.out; omega, HN, HO4, HB4⟩
              case measure => simp [intOf]; omega
          · have hE := HE.out
            rw [show n - j = 0 by omega] at hE
            have HN := Lib.hid (args_end hE)
            have i1 : ¬ (j : Int) < (n : Int) := by omega
            clear hE HE
            go_wp2
            go_ret3
            rw [HN.out]
            exact ⟨C, cc, rfl, HO.out, HB.out⟩
  · rw [argsE_out (.inl hx)]
    rw [decide_eq_false hx] at CP
    clear hx
    go_enter Tryd.func49, Tryd.ntmps49
    go_wp2_with fail
    refine CP.out.mono ?_
    rintro e w' ⟨rfl, rfl⟩
    go_wp2
    go_ret3
    exact ⟨none, 0, rfl, HO0.out, HBR.out⟩
end Go.Proofs.YtckldeabbkdbjaaDoor

namespace Go.Proofs.YtckldeabbkdbjaaDoor
open Go.RowKit

set_option maxRecDepth 100000 in
set_option maxHeartbeats 8000000 in
theorem rargs_any (A : Option Addr) (c : Nat) (ts : List Tok) (x y : Int) (w : World) (hr : Rd w A ts) (hl : ts.length ≤ 100000) (hcap : ts.length ≤ c) (hc63 : c ≤ 9223372036854775807) :
    Calls Tryd.prog 29 #[.slice A ts.length c, .int .i64 x, .int .i64 y] w (ArgsPost 32 w (argsE ts x y)) := by
  have HO0 := Lib.hid (ownL_nil 32 w w.heap.size)
  have HBR := Lib.hid (Below.refl w.heap.size w)
  by_cases hx0 : x < 0
  · rw [argsE_out (.inl (by omega))]
    go_enter Tryd.func29, Tryd.ntmps29
    go_wp2
    go_ret3
    exact ⟨none, 0, rfl, HO0.out, HBR.out⟩
  · by_cases hx1 : (ts.length : Int) < x
    · rw [argsE_out (.inl (by omega))]
      go_enter Tryd.func29, Tryd.ntmps29
      go_wp2
      go_ret3
      exact ⟨none, 0, rfl, HO0.out, HBR.out⟩
    · by_cases hy1 : y < 0
      · rw [argsE_out (.inr (.inl hy1))]
        go_enter Tryd.func29, Tryd.ntmps29
        go_wp2
        go_ret3
        exact ⟨none, 0, rfl, HO0.out, HBR.out⟩
      · by_cases hy2 : 9 < y
        · rw [argsE_out (.inr (.inr hy2))]
          go_enter Tryd.func29, Tryd.ntmps29
          go_wp2
          go_ret3
          exact ⟨none, 0, rfl, HO0.out, HBR.out⟩
        · obtain ⟨a, rfl⟩ : ∃ a : Nat, x = a := ⟨x.toNat, by omega⟩
          obtain ⟨n, rfl⟩ : ∃ n : Nat, y = n := ⟨y.toNat, by omega⟩
          have ha : a ≤ ts.length := by omega
          have hn : n ≤ 9 := by omega
          rw [argsE_in ha hn]
          obtain ⟨G, hG⟩ : ∃ G, argsG ts n a = G := ⟨_, rfl⟩
          rw [hG]
          have HG := Lib.hid (show (argsG ts (n - 0) a).map (fun x => ([] ++ x.1, x.2)) = G by rw [← hG]; simp)
          have HO1 := Lib.hid (ownL_empty 32 w)
          have HB1 := Lib.hid (one_below w (.cells #[] 32))
          clear hG HO0 HBR
          go_enter Tryd.func29, Tryd.ntmps29
          go_wp2_with fail
          go_loopw [10, 9, 1] (fun v10 v9 v1 wr => ∃ (j p : Nat) (C : Option Addr) (cc : Nat) (out : List (List Tok)), v10 = .int .i64 j ∧ v9 = .slice C out.length cc ∧ v1 = .int .i64 p ∧ j ≤ n ∧ p ≤ ts.length ∧ out.length ≤ j ∧ Hid ((argsG ts (n - j) p).map (fun x => (out ++ x.1, x.2)) = G) ∧ Hid (OwnL 32 wr w.heap.size C cc out) ∧ Hid (Below w.heap.size w wr)) (fun v10 _ _ _ => n - (intOf v10).toNat)
          case atStart => exact ⟨0, a, _, 0, [], rfl, rfl, rfl, Nat.zero_le _, ha, Nat.le_refl _, HG, HO1, HB1⟩
          case round =>
            clear HG HO1 HB1 ha hx0 hx1
            obtain ⟨j, p, C, cc, out, rfl, rfl, rfl, hj, hp, hout, HE, HO, HB⟩ := hrel
            by_cases hlt : j < n
            · have i1 : (j : Int) < (n : Int) := by omega
              have hrw := hr.below HB.out
              obtain ⟨hs1, hs2⟩ := skip_le hp
              obtain ⟨s, hs⟩ : ∃ s, skipN ts p = s := ⟨_, rfl⟩
              rw [hs] at hs1 hs2
              have HS := Lib.hid hs
              have HRW := Lib.hid hrw
              clear hrw
              go_wp2_with fail
              go_loop [1] (fun v => ∃ k : Nat, v = .int .i64 k ∧ k ≤ ts.length ∧ Hid (skipN ts k = s)) (fun v => ts.length - (intOf v).toNat)
              case atStart => exact ⟨p, rfl, hp, HS⟩
              case round =>
                obtain ⟨k, rfl, hk, HK⟩ := hrel
                by_cases hkl : k < ts.length
                · obtain ⟨b, o, rfl, hcell⟩ := HRW.out (by omega)
                  obtain ⟨f, hf⟩ : ∃ f, ts[k]? = some f := ⟨_, List.getElem?_eq_getElem hkl⟩
                  obtain ⟨c1, c2⟩ := hcell k f hf
                  have i2 : (k : Int) < (ts.length : Int) := by omega
                  by_cases h2 : f.1 = 2
                  · have HN := Lib.hid ((skip_step hf h2).symm.trans HK.out)
                    rw [h2] at c1
                    clear hf hcell h2 HK hs c2
                    go_wp2
                    go_round
                    case rel => exact ⟨k + 1, by go_num, by omega, HN⟩
                    case measure => simp [intOf]; omega
                  · have e := (skip_stop hf h2).symm.trans HK.out
                    subst e
                    have q2 : (f.1 == 2) = false := by simpa using h2
                    clear hf hcell h2 HK c2
                    have hE := HE.out
                    rw [show n - j = (n - (j + 1)) + 1 by omega] at hE
                    have HE2 := Lib.hid hE
                    have HC := Lib.hid c1
                    clear hE HE hs c1
                    cases hgr : grpN ts k with
                    | none =>
                      have HGN := Lib.hid hgr
                      have HGR := Lib.hid (show grpE ts k = (0, 10) by rw [grpE_in hk, hgr]; rfl)
                      have c1 := HC.out
                      clear hgr HC
                      have HN := Lib.hid (args_stop (by rw [HS.out]; exact HGN.out) HE2.out)
                      have C2 := Lib.hid (rgroup_any (some ⟨b, o, none⟩) c ts k wr HRW.out (by omega))
                      rw [HGR.out] at C2
                      clear HGN HE2 HO
                      go_wp2_with fail
                      refine C2.out.mono ?_
                      rintro e w2 ⟨rfl, rfl⟩
                      go_wp2
                      go_ret3
                      rw [HN.out]
                      exact ⟨none, 0, rfl, ownL_nil _ _ _, HB.out⟩
                    | some q =>
                      obtain ⟨hq1, hq2, hq3, _⟩ := grp_some hgr
                      have hst := args_step (by rw [HS.out]; exact hgr) HE2.out
                      rw [HS.out] at hst
                      have hwl := within_len hq3 hq2
                      have hpart := fun w => rtok_part (A := some ⟨b, o, none⟩) (n := ts.length) (c := c) (l := k + 1) (h := q - 1) (by omega) (by omega) w
                      rw [show ((k + 1 : Nat) : Int) = (k : Int) + 1 by omega, show ((q - 1 : Nat) : Int) = (q : Int) - 1 by omega] at hpart
                      have hrp : Rd wr (cutS 2 (some ⟨b, o, none⟩) c (k + 1)) (within ts k q) := HRW.out.part (by omega) hcap
                      obtain ⟨i, hi⟩ : ∃ i, within ts k q = i := ⟨_, rfl⟩
                      have hil : i.length ≤ 100000 := by rw [← hi]; have := within_le (l := ts) (a := k) (p := q); omega
                      rw [hi] at hst hwl hrp
                      rw [← hwl] at hpart
                      generalize cutS 2 (some ⟨b, o, none⟩) c (k + 1) = B at *
                      generalize c - (k + 1) = d at *
                      obtain ⟨o2, ho2⟩ : ∃ o2, out ++ [i] = o2 := ⟨_, rfl⟩
                      rw [ho2] at hst
                      have HN := Lib.hid hst
                      have HYL := Lib.hid (show o2.length = out.length + 1 by rw [← ho2]; simp)
                      have HY := Lib.hid ho2
                      have HGR := Lib.hid (show grpE ts k = ((q : Int), 0) by rw [grpE_in hk, hgr]; rfl)
                      have HRP := Lib.hid hrp
                      have HQ := Lib.hid hq3
                      have C2 := Lib.hid (rgroup_any (some ⟨b, o, none⟩) c ts k wr HRW.out (by omega))
                      rw [HGR.out] at C2
                      have HIL := Lib.hid hil
                      have c1 := HC.out
                      clear hgr HE2 hst hrp hi ho2 hwl hil HC
                      go_wp2_with fail
                      refine C2.out.mono ?_
                      rintro e w2 ⟨rfl, rfl⟩
                      have SB := one_below wr (.cells #[] 65)
                      have HSB := Lib.hid SB
                      have HR2 := Lib.hid (HRP.out.below SB)
                      have HE0 := Lib.hid (own_empty 65 wr)
                      have hil : i.length ≤ 100000 := HIL.out
                      clear SB HRP C2 c1
                      go_wp2_with (at_builtin; first
                        | (refine wpList_append_rdn40 _ rfl _ _ rfl wr.heap.size _ [] rfl HE0.out B i.length d i rfl rfl HR2.out (by show 0 + i.length ≤ _; omega) HSB.out.size i rfl ?_
                           intro B2 d2 w3 ho3 hb3
                           have S3 := HSB.out.trans hb3
                           have SB3 := S3.trans ((one_below w3 (.cells #[.slice B2 i.length d2] 32)).mono S3.size)
                           have HO3 := Lib.hid (HO.out.below SB3)
                           have HB3 := Lib.hid (bch HB.out SB3)
                           have HR3 := Lib.hid (ho3.rd.below (one_below w3 (.cells #[.slice B2 i.length d2] 32)))
                           have HF3 := Lib.hid (own_far ho3 HO.out.lt)
                           clear HO ho3 hb3 S3 SB3 HE0 HR2 HSB HB)
                        | (refine wpList_append_l 68 32 Tryd.underlying68 Tryd.infoL32 _ rfl _ _ rfl w.heap.size C cc out rfl HO3.out w3.heap.size B2 d2 i rfl (new_one _ _ _) HR3.out HF3.out (by omega) HB3.out.size o2 HY.out ?_
                           intro N2 nc2 w4 hown4 hb4
                           have HB4 := Lib.hid (HB3.out.trans hb4)
                           have HO4 := Lib.hid hown4
                           clear HO3 HB3 hb4 hown4))
                      go_roundw
                      case rel => exact ⟨j + 1, q, N2, nc2, o2, by go_num, rfl, rfl, by omega, HQ.out, by have := HYL.out; omega, HN, HO4, HB4⟩
                      case measure => simp [intOf]; omega
                · have e := (skip_end (by omega)).symm.trans HK.out
                  subst e
                  have i2 : ¬ (k : Int) < (ts.length : Int) := by omega
                  clear HK
                  have hE := HE.out
                  rw [show n - j = (n - (j + 1)) + 1 by omega] at hE
                  have HE2 := Lib.hid hE
                  have HGN := Lib.hid (grp_out (l := ts) (a := k) (by omega))
                  have HGR := Lib.hid (show grpE ts k = (0, 10) by rw [grpE_in hk, HGN.out]; rfl)
                  clear hE HE hs
                  have HN := Lib.hid (args_stop (by rw [HS.out]; exact HGN.out) HE2.out)
                  have C2 := Lib.hid (rgroup_any A c ts k wr HRW.out (by omega))
                  rw [HGR.out] at C2
                  clear HGN HE2 HO
                  go_wp2_with fail
                  refine C2.out.mono ?_
                  rintro e w2 ⟨rfl, rfl⟩
                  go_wp2
                  go_ret3
                  rw [HN.out]
                  exact ⟨none, 0, rfl, ownL_nil _ _ _, HB.out⟩
            · have hE := HE.out
              rw [show n - j = 0 by omega] at hE
              have HN := Lib.hid (args_end hE)
              have i1 : ¬ (j : Int) < (n : Int) := by omega
              clear hE HE
              go_wp2
              go_ret3
              rw [HN.out]
              exact ⟨C, cc, rfl, HO.out, HB.out⟩
end Go.Proofs.YtckldeabbkdbjaaDoor

namespace Go.Proofs.YtckldeabbkdbjaaDoor
open Go.RowKit

theorem tk_eqInN (f g : Tok) (w : World) :
    (Op.equalIn 10000 64 (.agg #[.int .i64 f.1, .string ⟨f.2.toArray⟩]) (.agg #[.int .i64 g.1, .string ⟨g.2.toArray⟩])).run Tryd.prog w = .ok (decide (f = g)) w := by
  have u9 := Tryd.underlying9
  have a9 := Tryd.isAgg9
  have z9 := Tryd.sizeOf9
  have u3 := Tryd.underlying3
  have a3 := Tryd.isAgg3
  have z3 := Tryd.sizeOf3
  have hS : Tryd.prog.underlying 64 = some (.struct (Tryd.prog.fieldsOf 64)) := by kernel_rfl
  have hp : Tryd.prog.stoodInHeld 64 = false := by kernel_rfl
  rw [show (10000 : Nat) = 9999 + 1 from rfl, run_equalIn_agg w 9999 64 _ _ hS hp]
  simp only [Program.fieldsOf, Tryd.underlying64]
  go_simp
  obtain ⟨f1, f2⟩ := f
  obtain ⟨g1, g2⟩ := g
  by_cases h1 : f1 = g1 <;> by_cases h2 : f2 = g2 <;> simp [h1, h2]
theorem tk_neq_yesN {f g : Tok} (h : f ≠ g) (w : World) :
    (binOp .neq 64 (.agg #[.int .i64 f.1, .string ⟨f.2.toArray⟩]) (.agg #[.int .i64 g.1, .string ⟨g.2.toArray⟩])).run Tryd.prog w = .ok (.bool true) w := by
  rw [run_neq_struct, tk_eqInN, decide_eq_false h]; rfl
theorem tk_neq_noN {f g : Tok} (h : f = g) (w : World) :
    (binOp .neq 64 (.agg #[.int .i64 f.1, .string ⟨f.2.toArray⟩]) (.agg #[.int .i64 g.1, .string ⟨g.2.toArray⟩])).run Tryd.prog w = .ok (.bool false) w := by
  rw [run_neq_struct, tk_eqInN, decide_eq_true h]; rfl
theorem tk_eqlN (f g : Tok) (w : World) :
    (binOp .eql 64 (.agg #[.int .i64 f.1, .string ⟨f.2.toArray⟩]) (.agg #[.int .i64 g.1, .string ⟨g.2.toArray⟩])).run Tryd.prog w = .ok (.bool (decide (f = g))) w := by
  rw [run_eql_struct, tk_eqInN]; rfl
set_option maxHeartbeats 1000000 in
theorem rnotes_any (A B : Option Addr) (c d : Nat) (fs gs : List Tok) (w : World) (hr : Rd w A fs) (hq : Rd w B gs) (hc : fs.length ≤ 200000) (hd : gs.length ≤ 200000) :
    Calls Tryd.prog 15 #[.slice A fs.length c, .slice B gs.length d] w fun e w' => e = .returned (.bool (decide (fs = gs))) ∧ ∃ n, w' = w.drewN n := by
  by_cases hl : fs.length = gs.length
  · have q : ((fs.length : Int) != (gs.length : Int)) = false := by simp [hl]
    have HL := Lib.hid hl
    clear hl
    go_enter Tryd.func15, Tryd.ntmps15
    go_wp2
    go_loopw [5] (fun i wr => ∃ k m : Nat, k ≤ fs.length ∧ i = .int .i64 k ∧ fs.take k = gs.take k ∧ wr = w.drewN m) (fun i _ => fs.length - (intOf i).toNat)
    case atStart => exact ⟨0, 0, Nat.zero_le _, rfl, by simp, rfl⟩
    case round =>
      obtain ⟨k, m, hk, rfl, hall, rfl⟩ := hrel
      have Hall := Lib.hid hall
      clear hall
      by_cases hlt : k < fs.length
      · have hlt2 : k < gs.length := by rw [← HL.out]; exact hlt
        obtain ⟨b, o, rfl, hcell⟩ := hr (by omega)
        obtain ⟨b2, o2, rfl, hcell2⟩ := hq (by omega)
        obtain ⟨f, hf⟩ : ∃ f, fs[k]? = some f := ⟨_, List.getElem?_eq_getElem hlt⟩
        obtain ⟨g, hg⟩ : ∃ g, gs[k]? = some g := ⟨_, List.getElem?_eq_getElem hlt2⟩
        obtain ⟨c1, c2⟩ := hcell k f hf
        obtain ⟨e1, e2⟩ := hcell2 k g hg
        have HF := Lib.hid hf
        have HG := Lib.hid hg
        clear hf hcell hr hg hcell2 hq
        have i1 : (k : Int) < (fs.length : Int) := by omega
        have i2 : (k : Int) < (gs.length : Int) := by omega
        by_cases hfg : f = g
        · have hrun := tk_neq_noN hfg
          have HE := Lib.hid hfg
          clear hfg
          go_wp2_with fail
          go_quiet (fail)
          go_wp2
          go_roundw
          case rel => exact ⟨k + 1, _, by omega, by go_num, eq_step HF.out HG.out HE.out Hall.out, rfl⟩
          case measure => simp [intOf]; omega
        · have hrun := tk_neq_yesN hfg
          have HE := Lib.hid hfg
          clear hfg
          go_wp2_with fail
          go_quiet (fail)
          go_wp2
          go_ret
          exact ⟨ret_bool (eq_stop HF.out HG.out HE.out), _, World.drewN_drewN _ _ _⟩
      · go_wp2
        go_ret
        exact ⟨ret_bool (eq_end (by omega) (by rw [← HL.out]; omega) Hall.out), _, rfl⟩
  · have q : ((fs.length : Int) != (gs.length : Int)) = true := by simp; omega
    have HL := Lib.hid hl
    clear hl
    go_enter Tryd.func15, Tryd.ntmps15
    go_wp2
    go_ret
    exact ⟨ret_bool (eq_len HL.out), 0, rfl⟩
/-- A slice that reads as texts. -/
def RdS (w : World) (A : Option Addr) (xs : List By) : Prop :=
  0 < xs.length → ∃ b o, A = some ⟨b, o, none⟩ ∧ ∀ i x, xs[i]? = some x → w.cell? ⟨b, o + i, none⟩ = some (.string ⟨x.toArray⟩)
theorem RdS.below {w w' : World} {A : Option Addr} {xs : List By} (h : RdS w A xs) (hb : Below w.heap.size w w') : RdS w' A xs := fun h0 => by
  obtain ⟨b, o, e, hc⟩ := h h0
  exact ⟨b, o, e, fun i f hi => cell_below hb (hc i f hi)⟩
theorem mem_stop {fs : List By} {k : Nat} {f g : By} (hf : fs[k]? = some f) (he : f = g) : true = decide (g ∈ fs) := (decide_eq_true (by rw [← he]; exact List.mem_of_getElem? hf)).symm
theorem mem_step {fs : List By} {k : Nat} {f g : By} (hf : fs[k]? = some f) (hne : f ≠ g) (h : g ∉ fs.take k) : g ∉ fs.take (k + 1) := by
  rw [List.take_add_one, hf]
  simp only [Option.toList_some, List.mem_append, List.mem_singleton, not_or]
  exact ⟨h, fun e => hne e.symm⟩
theorem mem_end {fs : List By} {k : Nat} {g : By} (h1 : fs.length ≤ k) (h : g ∉ fs.take k) : false = decide (g ∈ fs) := by
  rw [List.take_of_length_le h1] at h
  exact (decide_eq_false h).symm
end Go.Proofs.YtckldeabbkdbjaaDoor
