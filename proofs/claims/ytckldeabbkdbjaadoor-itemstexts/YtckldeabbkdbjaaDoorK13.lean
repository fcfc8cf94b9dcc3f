/-
  The document's answer for layer 9: Parse.
-/
import Derived.Test.YtckldeabbkdbjaaDoorK09
import Derived.StillTailTactics
namespace Go.Proofs.YtckldeabbkdbjaaDoor
open Go.RowKit

theorem p_word {z : By} {r out notes : List Tok} : parseI ((1, z) :: r) out notes = parseI r (addI out z) notes := parse_word z r out notes
theorem add_nil {out : List Tok} (h : endT false out = false) : addI out [] = out := by
  have := add_front (o := out) (out := []) (s := []) h
  rw [List.append_nil] at this
  rw [this]
  simp [addI]
theorem add_new {out : List Tok} {z : By} (h : endT false out = false) (hz : z ≠ []) : addI out z = out ++ [(1, z)] := by
  have := add_front (o := out) (out := []) (s := z) h
  rw [List.append_nil] at this
  rw [this]
  simp [addI, hz]
theorem add_last (pre : List Tok) (u z : By) : addI (pre ++ [(1, u)]) z = pre ++ [(1, u ++ z)] := by
  unfold addI
  simp
theorem p_other {κ : Int} {z : By} {r out notes : List Tok} (h : κ < 1 ∨ 4 < κ) : parseI ((κ, z) :: r) out notes = parseI r out notes := by
  rw [parseI, if_neg (show ¬ κ = 1 by omega), if_neg (show ¬ (κ = 2 ∨ κ = 3) by omega), if_neg (show ¬ κ = 4 by omega)]
theorem p_none {z : By} {r out notes : List Tok} (h : kindI z = 0) : parseI ((4, z) :: r) out notes = parseI r out (notes ++ [(11, z)]) := by
  rw [parseI, if_neg (show ¬ (4 : Int) = 1 by decide), if_neg (show ¬ ((4 : Int) = 2 ∨ (4 : Int) = 3) by decide), if_pos rfl, if_pos h]
theorem p_lone {z : By} {r out notes : List Tok} (h : 13 < kindI z) : parseI ((4, z) :: r) out notes = parseI r (out ++ [((kindI z : Int), [])]) notes := by
  rw [parseI, if_neg (show ¬ (4 : Int) = 1 by decide), if_neg (show ¬ ((4 : Int) = 2 ∨ (4 : Int) = 3) by decide), if_pos rfl, if_neg (show ¬ kindI z = 0 by omega), if_pos h]
theorem p_bad {z : By} {r out notes : List Tok} (h0 : kindI z ≠ 0) (h : ¬ 13 < kindI z) (hg : grp1 r = none) : parseI ((4, z) :: r) out notes = parseI r out (notes ++ [(10, z)]) := by
  rw [parseI, if_neg (show ¬ (4 : Int) = 1 by decide), if_neg (show ¬ ((4 : Int) = 2 ∨ (4 : Int) = 3) by decide), if_pos rfl, if_neg h0, if_neg h]
  split
  · rfl
  · rename_i hh; rw [hg] at hh; cases hh
theorem p_good {z : By} {r out notes x : List Tok} {p : Nat} (h0 : kindI z ≠ 0) (h : ¬ 13 < kindI z) (hg : grp1 r = some (x, p)) : parseI ((4, z) :: r) out notes = parseI (r.drop p) (groupI out notes z x).1 (groupI out notes z x).2 := by
  rw [parseI, if_neg (show ¬ (4 : Int) = 1 by decide), if_neg (show ¬ ((4 : Int) = 2 ∨ (4 : Int) = 3) by decide), if_pos rfl, if_neg h0, if_neg h]
  split
  · rename_i hh; rw [hg] at hh; cases hh
  · rename_i x' p' hh; rw [hg] at hh; cases hh; rfl
theorem args_here {ts : List Tok} {k : Nat} (hk : k < ts.length) : argsE ts ((k : Int) + 1) 1 = argsP ((grp1 (ts.drop (k + 1))).map fun x => ([x.1], x.2 + (k + 1))) := by
  unfold argsE
  rw [if_neg (by omega), show ((k : Int) + 1).toNat = k + 1 by omega, show (1 : Int).toNat = 1 from rfl, args_one]
def ParsePost (w : World) (r : List Tok × List Tok) (en : Ending) (w' : World) : Prop :=
  ∃ (A B : Option Addr) (c d : Nat), en = .returned (.tuple #[.slice A r.1.length c, .slice B r.2.length d]) ∧ Two w w' A c r.1 B d r.2
theorem two_new (w : World) : Two w ((w.alloc (.cells #[] 66)).alloc (.cells #[] 64)) (some ⟨w.heap.size, 0, none⟩) 0 [] (some ⟨w.heap.size + 1, 0, none⟩) 0 [] := by
  have s1 : (w.alloc (.cells #[] 66)).heap.size = w.heap.size + 1 := by simp
  have b1 := one_below w (.cells #[] 66)
  have b2 := one_below (w.alloc (.cells #[] 66)) (.cells #[] 64)
  have o2 := own_empty 64 (w.alloc (.cells #[] 66))
  rw [s1] at o2
  exact ⟨(own_empty 66 w).below b2, o2.mono (by omega), bch b1 b2⟩
/-- The last item, its cells. -/
theorem end_cells {w V : World} {A B : Option Addr} {c d : Nat} {out notes : List Tok} (h : Two w V A c out B d notes) (hne : out.length ≠ 0) :
    ∃ (m g : Nat) (f : Tok), out.length = m + 1 ∧ A = some ⟨g, 0, none⟩ ∧ V.cell? ⟨g, m * 2, none⟩ = some (.int .i64 f.1) ∧ V.cell? ⟨g, m * 2 + 1, none⟩ = some (.string ⟨f.2.toArray⟩) ∧ V.frozen? ⟨g, m * 2 + 1, none⟩ = false ∧ endT false out = (f.1 == 1) ∧ f ∈ out ∧
      (∀ s : By, (out.dropLast ++ [(f.1, s)]).length = m + 1) ∧ (∀ s : By, Hid (Two w (V.setCell ⟨g, m * 2 + 1, none⟩ (.string ⟨s.toArray⟩)) A c (out.dropLast ++ [(f.1, s)]) B d notes)) ∧ (f.1 = 1 → ∀ z : By, addI out z = out.dropLast ++ [(f.1, f.2 ++ z)]) := by
  rcases List.eq_nil_or_concat out with rfl | ⟨pre, f, hpf⟩
  · exact absurd rfl hne
  · rw [List.concat_eq_append] at hpf
    subst hpf
    obtain ⟨g, rfl, q1, q2, q3, _⟩ := two_store h []
    refine ⟨pre.length, g, f, by simp, rfl, q1, q2, q3, end_app _ _ _, by simp, fun s => by simp, fun s => ?_, fun h1 z => ?_⟩
    · obtain ⟨g', e, _, _, _, q5⟩ := two_store h s
      cases e
      rw [List.dropLast_concat]
      exact q5
    · obtain ⟨j, u⟩ := f
      simp only at h1
      subst h1
      rw [List.dropLast_concat]
      exact add_last pre u z
theorem p_note2 {z : By} {r out notes x : List Tok} {p : Nat} (h0 : kindI z ≠ 0) (h : ¬ 13 < kindI z) (hg : grp1 r = some (x, p)) (hb : flatL x = [] ∨ 60 < (flatL x).length) : parseI ((4, z) :: r) out notes = parseI (r.drop p) out (notes ++ [(2, z)]) := by
  rw [p_good h0 h hg, groupI, if_pos hb]
theorem p_item {z : By} {r out notes x : List Tok} {p : Nat} (h0 : kindI z ≠ 0) (h : ¬ 13 < kindI z) (hg : grp1 r = some (x, p)) (hb : ¬ (flatL x = [] ∨ 60 < (flatL x).length)) : parseI ((4, z) :: r) out notes = parseI (r.drop p) (out ++ [((kindI z : Int), flatL x)]) notes := by
  rw [p_good h0 h hg, groupI, if_neg hb]
theorem grp1_mem {r x : List Tok} {p : Nat} (h : grp1 r = some (x, p)) {t : Tok} (ht : t ∈ x) : t ∈ r := by
  unfold grp1 at h
  split at h
  · cases h
  · cases h
    unfold within at ht
    exact List.mem_of_mem_drop (List.mem_of_mem_take ht)
theorem args_none_any {S : Option Addr} {sc k : Nat} {ts : List Tok} (hk : k < ts.length) (hl : ts.length ≤ 400) (hcap : ts.length ≤ sc) (hc63 : sc ≤ 9223372036854775807) (hg : grp1 (ts.drop (k + 1)) = none) {w : World} (hr : Rd w S ts) :
    Calls Tryd.prog 29 #[.slice S ts.length sc, .int .i64 ((k : Int) + 1), .int .i64 1] w fun e w' => ∃ A c, e = .returned (.tuple #[.slice A 0 c, .int .i64 0, .int .i64 10]) ∧ Below w.heap.size w w' := by
  have H := rargs_any S sc ts ((k : Int) + 1) 1 w hr (by omega) hcap hc63
  rw [args_here hk, hg] at H
  refine H.mono ?_
  rintro e w' ⟨A, c, rfl, _, hb⟩
  exact ⟨A, c, rfl, hb⟩
theorem args_some_any {S : Option Addr} {sc k j p : Nat} {ts x : List Tok} (hk : k < ts.length) (hl : ts.length ≤ 400) (hcap : ts.length ≤ sc) (hc63 : sc ≤ 9223372036854775807) (hg : grp1 (ts.drop (k + 1)) = some (x, p)) (hj : k + p = j) {w : World} (hr : Rd w S ts) :
    Calls Tryd.prog 29 #[.slice S ts.length sc, .int .i64 ((k : Int) + 1), .int .i64 1] w fun e w' => ∃ g o c B d, e = .returned (.tuple #[.slice (some ⟨g, o, none⟩) 1 c, .int .i64 ((j : Int) + 1), .int .i64 0]) ∧ w'.cell? ⟨g, o, none⟩ = some (.slice B x.length d) ∧ Rd w' B x ∧ Below w.heap.size w w' := by
  have H := rargs_any S sc ts ((k : Int) + 1) 1 w hr (by omega) hcap hc63
  rw [args_here hk, hg] at H
  refine H.mono ?_
  rintro e w' ⟨A, c, rfl, hO, hb⟩
  obtain ⟨g, o, hA, hc⟩ := hO.rd (by show 0 < [x].length; simp)
  obtain ⟨B, d, h1, h2⟩ := hc 0 x rfl
  have hA' : A = some ⟨g, o, none⟩ := hA
  subst hA'
  refine ⟨g, o, c, B, d, ?_, h1, h2, hb⟩
  show Ending.returned (.tuple #[.slice (some ⟨g, o, none⟩) [x].length c, .int .i64 ((p + (k + 1) : Nat) : Int), .int .i64 0]) = _
  have e1 : ((p + (k + 1) : Nat) : Int) = (j : Int) + 1 := by omega
  rw [e1]
  rfl
set_option maxRecDepth 100000 in
set_option maxHeartbeats 8000000 in
theorem rparse_any (S : Option Addr) (sc : Nat) (ts : List Tok) (w : World) (hr : Rd w S ts) (hl : ts.length ≤ 400) (hcap : ts.length ≤ sc) (hc63 : sc ≤ 9223372036854775807) (hz : Hid (∀ t ∈ ts, t.2.length ≤ 400)) :
    Calls Tryd.prog 11 #[.slice S ts.length sc] w (ParsePost w (parseI ts [] [])) := by
  obtain ⟨G, hG⟩ : ∃ G, parseI ts [] [] = G := ⟨_, rfl⟩
  rw [hG]
  have HG0 := Lib.hid (show parseI (ts.drop 0) [] [] = G by rw [List.drop_zero, hG])
  have HT0 := Lib.hid (two_new w)
  clear hG
  go_enter Tryd.func11, Tryd.ntmps11
  go_wp2_with fail
  go_loopw [4, 5, 6] (fun vo vn i wr => ∃ (k : Nat) (A : Option Addr) (c : Nat) (out : List Tok) (B : Option Addr) (d : Nat) (notes : List Tok), i = .int .i64 k ∧ k ≤ ts.length ∧ vo = .slice A out.length c ∧ vn = .slice B notes.length d ∧ Hid (parseI (ts.drop k) out notes = G) ∧ out.length ≤ k ∧ notes.length ≤ k ∧ Hid (∀ f ∈ out, f.2.length ≤ 400 * k + 60) ∧ Hid (Two w wr A c out B d notes)) (fun _ _ i _ => ts.length - (intOf i).toNat)
  case atStart => exact ⟨0, _, 0, [], _, 0, [], rfl, Nat.zero_le _, rfl, rfl, HG0, Nat.zero_le _, Nat.zero_le _, Lib.hid (fun f hf => by cases hf), HT0⟩
  case round =>
    obtain ⟨k, A, c, out, B, d, notes, rfl, hk, rfl, rfl, HG, hol, hnl, HS, HT⟩ := hrel
    by_cases hlt : k < ts.length
    · have hrw := hr.below HT.out.low
      obtain ⟨b, o, hS, hcell⟩ := hrw (by omega)
      obtain ⟨f, hf⟩ : ∃ f, ts[k]? = some f := ⟨_, List.getElem?_eq_getElem hlt⟩
      obtain ⟨c1, c2⟩ := hcell k f hf
      have hzl := hz.out f (List.mem_of_getElem? hf)
      have HD := Lib.hid (drop_one hf)
      obtain ⟨κ, z⟩ := f
      simp only at c1 c2 hzl
      have i1 : (k : Int) < (ts.length : Int) := by omega
      have bV := one_below wr (.cells #[.int .i64 κ, .string ⟨z.toArray⟩] 65)
      have HT := Lib.hid (HT.out.below bV)
      have HRV := Lib.hid (hrw.below bV)
      have t0 := new_fst wr (.int .i64 κ) (.string ⟨z.toArray⟩) 65
      have t1 := new_snd wr (.int .i64 κ) (.string ⟨z.toArray⟩) 65
      obtain ⟨V, hV⟩ : ∃ V, wr.alloc (.cells #[.int .i64 κ, .string ⟨z.toArray⟩] 65) = V := ⟨_, rfl⟩
      rw [hV] at HT HRV t0 t1
      subst hS
      clear hf hcell hrw bV
      by_cases q1 : κ = 1
      · subst q1
        have HDD := HD
        by_cases hne : out.length = 0
        · have hlen := hne
          have HE1 := Lib.hid (show endT false out = false by rw [List.length_eq_zero_iff.1 hne]; rfl)
          by_cases hz0 : z = []
          · have q0 : (z == ([] : By)) = true := by simpa using hz0
            have HZ0 := Lib.hid hz0
            clear hz0
            have HN := Lib.hid (show parseI (ts.drop (k + 1)) out notes = G by rw [← HG.out, HD.out]; exact (show parseI ((1, z) :: ts.drop (k + 1)) out notes = parseI (ts.drop (k + 1)) out notes by rw [HZ0.out, parse_word, add_nil HE1.out]).symm)
            have HS1 := Lib.hid (show ∀ f ∈ out, f.2.length ≤ 400 * (k + 1) + 60 from fun f hf => by have := HS.out f hf; omega)
            go_wp2_with fail
            go_roundw
            case rel => exact ⟨k + 1, _, c, out, B, d, notes, by go_num, by omega, by first | rfl | rw [hlen], rfl, HN, by omega, by omega, HS1, HT⟩
            case measure => simp [intOf]; omega
          · have q0 : (z == ([] : By)) = false := by simpa using hz0
            have HZ0 := Lib.hid hz0
            clear hz0
            obtain ⟨O1, hO1⟩ : ∃ O, out ++ [((1 : Int), (z : By))] = O := ⟨_, rfl⟩
            have HN := Lib.hid (show parseI (ts.drop (k + 1)) O1 notes = G by rw [← hO1, ← HG.out, HD.out]; exact (show parseI ((1, z) :: ts.drop (k + 1)) out notes = parseI (ts.drop (k + 1)) (out ++ [(1, z)]) notes by rw [parse_word, add_new HE1.out HZ0.out]).symm)
            have HO1 := Lib.hid hO1
            have HLO := Lib.hid (show O1.length = out.length + 1 by rw [← hO1]; simp)
            have HS1 := Lib.hid (show ∀ f ∈ O1, f.2.length ≤ 400 * (k + 1) + 60 from fun f hf => by
              rw [← hO1] at hf
              rcases List.mem_append.1 hf with q | q
              · have := HS.out f q; omega
              · simp at q; subst q; show z.length ≤ _; omega)
            clear hO1
            go_wp2_with (at_builtin; refine two_out w V _ B c d out notes (1) (z) rfl _ _ rfl (by first | rfl | rw [hlen]) HT.out rfl (by omega) O1 HO1.out ?_; intro A1 a1 V1 HT1)
            go_roundw
            case rel => exact ⟨k + 1, A1, a1, O1, B, d, notes, by go_num, by omega, rfl, rfl, HN, by have := HLO.out; omega, by omega, HS1, HT1⟩
            case measure => simp [intOf]; omega
        · obtain ⟨m, g, f, hlen, hA, d1, d2, fz, hend, hmem, hls, hset, hadd⟩ := end_cells HT.out hne
          subst hA
          have HSET := Lib.hid hset
          have HADD := Lib.hid hadd
          have HLS := Lib.hid hls
          have hfl := HS.out f hmem
          clear hmem hset hadd hls hne
          by_cases hf1 : f.1 = 1
          · have hb : (f.1 == 1) = true := by simpa using hf1
            obtain ⟨u, hu⟩ : ∃ u, f.2 ++ z = u := ⟨_, rfl⟩
            have hul : u.length ≤ 400 * (k + 1) + 60 := by rw [← hu]; simp; omega
            obtain ⟨O1, hO1⟩ : ∃ O, out.dropLast ++ [(f.1, u)] = O := ⟨_, rfl⟩
            have HN := Lib.hid (show parseI (ts.drop (k + 1)) O1 notes = G by rw [← hO1, ← hu, ← HG.out, HD.out]; exact (by rw [parse_word, HADD.out hf1]))
            have HLO := Lib.hid (show O1.length = m + 1 by rw [← hO1]; exact HLS.out u)
            have HS1 := Lib.hid (show ∀ f ∈ O1, f.2.length ≤ 400 * (k + 1) + 60 from fun x hx => by
              rw [← hO1] at hx
              rcases List.mem_append.1 hx with q | q
              · have := HS.out x (List.dropLast_subset _ q); omega
              · simp at q; subst q; exact hul)
            have hcat : (⟨f.2.toArray⟩ : ByteArray) ++ ⟨z.toArray⟩ = ⟨u.toArray⟩ := by
              rw [← hu]
              apply ByteArray.ext
              simp [ByteArray.data_append]
            have HCAT := Lib.hid hcat
            have HT1 := HSET.out u
            rw [hO1] at HT1
            have HT2 := Lib.hid (HT1.out.below (ibelow_drew _))
            clear hu hO1 hf1 HADD HSET HLS HT1
            go_wp2_with fail
            have hwm : IntKind.i64.wrap (m : Int) = (m : Int) := IntWalk.i64_in _ (by omega)
            have hwm1 : IntKind.i64.wrap ((m : Int) + 1 - 1) = (m : Int) := by rw [Int.add_sub_cancel]; exact hwm
            have hmlt : (m : Int) < (m : Int) + 1 := by omega
            have hcl : ¬ 9223372036854775807 < List.length f.2 + List.length z := by omega
            go_still_tail 16, (by kernel_rfl)
            clear hwm hwm1 hmlt hcl
            change wpList _ _ _ _ _ V.drew
            go_wp2_with fail
            go_roundw
            case rel => exact ⟨k + 1, _, c, O1, B, d, notes, by go_num, by omega, by rw [HLO.out], rfl, HN, by have := HLO.out; omega, by omega, HS1, HT2⟩
            case measure => simp [intOf]; omega
          · have hb : (f.1 == 1) = false := by simpa using hf1
            have HE1 := Lib.hid (show endT false out = false by rw [hend]; exact hb)
            clear hf1 HADD HSET HLS hend
            by_cases hz0 : z = []
            · have q0 : (z == ([] : By)) = true := by simpa using hz0
              have HZ0 := Lib.hid hz0
              clear hz0
              have HN := Lib.hid (show parseI (ts.drop (k + 1)) out notes = G by rw [← HG.out, HD.out]; exact (show parseI ((1, z) :: ts.drop (k + 1)) out notes = parseI (ts.drop (k + 1)) out notes by rw [HZ0.out, parse_word, add_nil HE1.out]).symm)
              have HS1 := Lib.hid (show ∀ f ∈ out, f.2.length ≤ 400 * (k + 1) + 60 from fun f hf => by have := HS.out f hf; omega)
              go_wp2_with fail
              go_roundw
              case rel => exact ⟨k + 1, _, c, out, B, d, notes, by go_num, by omega, by first | rfl | rw [hlen], rfl, HN, by omega, by omega, HS1, HT⟩
              case measure => simp [intOf]; omega
            · have q0 : (z == ([] : By)) = false := by simpa using hz0
              have HZ0 := Lib.hid hz0
              clear hz0
              obtain ⟨O1, hO1⟩ : ∃ O, out ++ [((1 : Int), (z : By))] = O := ⟨_, rfl⟩
              have HN := Lib.hid (show parseI (ts.drop (k + 1)) O1 notes = G by rw [← hO1, ← HG.out, HD.out]; exact (show parseI ((1, z) :: ts.drop (k + 1)) out notes = parseI (ts.drop (k + 1)) (out ++ [(1, z)]) notes by rw [parse_word, add_new HE1.out HZ0.out]).symm)
              have HO1 := Lib.hid hO1
              have HLO := Lib.hid (show O1.length = out.length + 1 by rw [← hO1]; simp)
              have HS1 := Lib.hid (show ∀ f ∈ O1, f.2.length ≤ 400 * (k + 1) + 60 from fun f hf => by
                rw [← hO1] at hf
                rcases List.mem_append.1 hf with q | q
                · have := HS.out f q; omega
                · simp at q; subst q; show z.length ≤ _; omega)
              clear hO1
              go_wp2_with (at_builtin; refine two_out w V _ B c d out notes (1) (z) rfl _ _ rfl (by first | rfl | rw [hlen]) HT.out rfl (by omega) O1 HO1.out ?_; intro A1 a1 V1 HT1)
              go_roundw
              case rel => exact ⟨k + 1, A1, a1, O1, B, d, notes, by go_num, by omega, rfl, rfl, HN, by have := HLO.out; omega, by omega, HS1, HT1⟩
              case measure => simp [intOf]; omega
      · have n1 : (κ == 1) = false := by simpa using q1
        by_cases q2 : κ = 2
        · subst q2
          have hlen : True := trivial
          obtain ⟨O1, hO1⟩ : ∃ O, out ++ [((2 : Int), ([] : By))] = O := ⟨_, rfl⟩
          have HN := Lib.hid (show parseI (ts.drop (k + 1)) O1 notes = G by rw [← hO1, ← HG.out, HD.out]; exact (parse_gap (.inl rfl) z _ _ _).symm)
          have HO1 := Lib.hid hO1
          have HLO := Lib.hid (show O1.length = out.length + 1 by rw [← hO1]; simp)
          have HS1 := Lib.hid (show ∀ f ∈ O1, f.2.length ≤ 400 * (k + 1) + 60 from fun f hf => by
            rw [← hO1] at hf
            rcases List.mem_append.1 hf with q | q
            · have := HS.out f q; omega
            · simp at q; subst q; exact Nat.zero_le _)
          clear hO1
          go_wp2_with (at_builtin; refine two_out w V _ B c d out notes (2) ([]) rfl _ _ rfl (by first | rfl | rw [hlen]) HT.out rfl (by omega) O1 HO1.out ?_; intro A1 a1 V1 HT1)
          go_roundw
          case rel => exact ⟨k + 1, A1, a1, O1, B, d, notes, by go_num, by omega, rfl, rfl, HN, by have := HLO.out; omega, by omega, HS1, HT1⟩
          case measure => simp [intOf]; omega
        · have n2 : (κ == 2) = false := by simpa using q2
          by_cases q3 : κ = 3
          · subst q3
            have hlen : True := trivial
            obtain ⟨O1, hO1⟩ : ∃ O, out ++ [((3 : Int), ([] : By))] = O := ⟨_, rfl⟩
            have HN := Lib.hid (show parseI (ts.drop (k + 1)) O1 notes = G by rw [← hO1, ← HG.out, HD.out]; exact (parse_gap (.inr rfl) z _ _ _).symm)
            have HO1 := Lib.hid hO1
            have HLO := Lib.hid (show O1.length = out.length + 1 by rw [← hO1]; simp)
            have HS1 := Lib.hid (show ∀ f ∈ O1, f.2.length ≤ 400 * (k + 1) + 60 from fun f hf => by
              rw [← hO1] at hf
              rcases List.mem_append.1 hf with q | q
              · have := HS.out f q; omega
              · simp at q; subst q; exact Nat.zero_le _)
            clear hO1
            go_wp2_with (at_builtin; refine two_out w V _ B c d out notes (3) ([]) rfl _ _ rfl (by first | rfl | rw [hlen]) HT.out rfl (by omega) O1 HO1.out ?_; intro A1 a1 V1 HT1)
            go_roundw
            case rel => exact ⟨k + 1, A1, a1, O1, B, d, notes, by go_num, by omega, rfl, rfl, HN, by have := HLO.out; omega, by omega, HS1, HT1⟩
            case measure => simp [intOf]; omega
          · have n3 : (κ == 3) = false := by simpa using q3
            by_cases q4 : κ = 4
            · subst q4
              have hle := kind_le z
              obtain ⟨n, hkz⟩ : ∃ n, kindI z = n := ⟨_, rfl⟩
              rw [hkz] at hle
              have HKZ := Lib.hid hkz
              by_cases k0 : n = 0
              · subst k0
                have CK : Hid (∀ W : World, Calls Tryd.prog 28 #[.string ⟨z.toArray⟩] W fun en w' => en = .returned (.int .i64 0) ∧ Below W.heap.size W w') := Lib.hid fun W => by have := rkindI_any z W; rw [hkz] at this; exact this
                clear hkz hle
                go_wp2_with fail
                refine (CK.out _).mono ?_
                rintro en V2 ⟨rfl, hb2⟩
                have HT := Lib.hid (HT.out.below hb2)
                have HR2 := Lib.hid (HRV.out.below hb2)
                have t0 := cell_below hb2 t0
                have t1 := cell_below hb2 t1
                clear hb2 HRV
                obtain ⟨N1, hN1⟩ : ∃ N, notes ++ [((11 : Int), (z : By))] = N := ⟨_, rfl⟩
                have HN := Lib.hid (show parseI (ts.drop (k + 1)) out N1 = G by rw [← hN1, ← HG.out, HD.out]; exact (p_none HKZ.out).symm)
                have HN1 := Lib.hid hN1
                have HLN := Lib.hid (show N1.length = notes.length + 1 by rw [← hN1]; simp)
                have HS1 := Lib.hid (show ∀ f ∈ out, f.2.length ≤ 400 * (k + 1) + 60 from fun f hf => by have := HS.out f hf; omega)
                clear hN1
                go_wp2_with (at_builtin; refine two_note w V2 A B c d out notes (11) (z) rfl _ _ rfl rfl HT.out rfl (by omega) N1 HN1.out ?_; intro B1 b1 V1 HT1)
                go_roundw
                case rel => exact ⟨k + 1, A, c, out, B1, b1, N1, by go_num, by omega, rfl, rfl, HN, by omega, by have := HLN.out; omega, HS1, HT1⟩
                case measure => simp [intOf]; omega
              · have CK : Hid (∀ W : World, Calls Tryd.prog 28 #[.string ⟨z.toArray⟩] W fun en w' => en = .returned (.int .i64 (n : Int)) ∧ Below W.heap.size W w') := Lib.hid fun W => by have := rkindI_any z W; rw [hkz] at this; exact this
                have e0 : ((n : Int) == 0) = false := by simp; omega
                have n16 : n ≤ 16 := by omega
                have n4 : 4 ≤ n := by omega
                clear hle
                by_cases k13 : 13 < n
                · have i13 : (13 : Int) < (n : Int) := by omega
                  have hlen : True := trivial
                  have HPL := Lib.hid (fun r o m => p_lone (z := z) (r := r) (out := o) (notes := m) (by rw [hkz]; exact k13))
                  rw [hkz] at HPL
                  clear hkz
                  obtain ⟨O1, hO1⟩ : ∃ O, out ++ [(((n : Int) : Int), ([] : By))] = O := ⟨_, rfl⟩
                  have HN := Lib.hid (show parseI (ts.drop (k + 1)) O1 notes = G by rw [← hO1, ← HG.out, HD.out]; exact (HPL.out _ _ _).symm)
                  have HO1 := Lib.hid hO1
                  have HLO := Lib.hid (show O1.length = out.length + 1 by rw [← hO1]; simp)
                  have HS1 := Lib.hid (show ∀ f ∈ O1, f.2.length ≤ 400 * (k + 1) + 60 from fun f hf => by
                    rw [← hO1] at hf
                    rcases List.mem_append.1 hf with q | q
                    · have := HS.out f q; omega
                    · simp at q; subst q; exact Nat.zero_le _)
                  clear hO1
                  go_wp2_with fail
                  refine (CK.out _).mono ?_
                  rintro en V2 ⟨rfl, hb2⟩
                  have HT := Lib.hid (HT.out.below hb2)
                  have HR2 := Lib.hid (HRV.out.below hb2)
                  have t0 := cell_below hb2 t0
                  have t1 := cell_below hb2 t1
                  clear hb2 HRV
                  go_wp2_with (at_builtin; refine two_out w V2 _ B c d out notes ((n : Int)) ([]) rfl _ _ rfl (by first | rfl | rw [hlen]) HT.out rfl (by omega) O1 HO1.out ?_; intro A1 a1 V1 HT1)
                  go_roundw
                  case rel => exact ⟨k + 1, A1, a1, O1, B, d, notes, by go_num, by omega, rfl, rfl, HN, by have := HLO.out; omega, by omega, HS1, HT1⟩
                  case measure => simp [intOf]; omega
                · have i13 : (n : Int) ≤ 13 := by omega
                  have hlen : True := trivial
                  have Hne : Hid (kindI z ≠ 0) := Lib.hid (by rw [hkz]; exact k0)
                  have H13 : Hid (¬ 13 < kindI z) := Lib.hid (by rw [hkz]; exact k13)
                  rcases hg : grp1 (ts.drop (k + 1)) with _ | ⟨x, p⟩
                  · have CA := Lib.hid (fun (w : World) (hr : Rd w (some ⟨b, o, none⟩) ts) => args_none_any hlt hl hcap hc63 hg hr)
                    have HBD := Lib.hid (fun o m => p_bad (out := o) (notes := m) Hne.out H13.out hg)
                    clear hg hkz
                    obtain ⟨N1, hN1⟩ : ∃ N, notes ++ [((10 : Int), (z : By))] = N := ⟨_, rfl⟩
                    have HN := Lib.hid (show parseI (ts.drop (k + 1)) out N1 = G by rw [← hN1, ← HG.out, HD.out]; exact (HBD.out _ _).symm)
                    have HN1 := Lib.hid hN1
                    have HLN := Lib.hid (show N1.length = notes.length + 1 by rw [← hN1]; simp)
                    have HS1 := Lib.hid (show ∀ f ∈ out, f.2.length ≤ 400 * (k + 1) + 60 from fun f hf => by have := HS.out f hf; omega)
                    clear hN1
                    go_wp2_with fail
                    refine (CK.out _).mono ?_
                    rintro en V2 ⟨rfl, hb2⟩
                    have HT := Lib.hid (HT.out.below hb2)
                    have HR2 := Lib.hid (HRV.out.below hb2)
                    have t0 := cell_below hb2 t0
                    have t1 := cell_below hb2 t1
                    clear hb2 HRV
                    go_wp2_with fail
                    refine (CA.out _ HR2.out).mono ?_
                    rintro en V3 ⟨A3, c3, rfl, hb3⟩
                    have HT := Lib.hid (HT.out.below hb3)
                    have t0 := cell_below hb3 t0
                    have t1 := cell_below hb3 t1
                    clear hb3 HR2
                    go_wp2_with (at_builtin; refine two_note w V3 A B c d out notes (10) (z) rfl _ _ rfl rfl HT.out rfl (by omega) N1 HN1.out ?_; intro B1 b1 V1 HT1)
                    go_roundw
                    case rel => exact ⟨k + 1, A, c, out, B1, b1, N1, by go_num, by omega, rfl, rfl, HN, by omega, by have := HLN.out; omega, HS1, HT1⟩
                    case measure => simp [intOf]; omega
                  · obtain ⟨j, hj⟩ : ∃ j, k + p = j := ⟨_, rfl⟩
                    obtain ⟨p1, p2, p3⟩ := grp1_le hg
                    rw [List.length_drop] at p2 p3
                    have kj : k < j := by omega
                    have jl : j < ts.length := by omega
                    have xl : x.length ≤ 400 := by omega
                    have HM : Hid (Mild x) := Lib.hid fun t ht => by have := hz.out t (List.mem_of_mem_drop (grp1_mem hg ht)); omega
                    have HJ := Lib.hid (show (ts.drop (k + 1)).drop p = ts.drop (j + 1) by rw [List.drop_drop]; congr 1; omega)
                    have CA := Lib.hid (fun (w : World) (hr : Rd w (some ⟨b, o, none⟩) ts) => args_some_any hlt hl hcap hc63 hg hj hr)
                    obtain ⟨y, hy⟩ : ∃ y, flatL x = y := ⟨_, rfl⟩
                    by_cases hbad : y = [] ∨ 60 < y.length
                    · have HBD := Lib.hid (fun o m => p_note2 (out := o) (notes := m) Hne.out H13.out hg (by rw [hy]; exact hbad))
                      rw [HJ.out] at HBD
                      clear hg hkz p2 p3 p1 hj
                      by_cases hy0 : y = []
                      · have q0 : (y == ([] : By)) = true := by simpa using hy0
                        clear hbad hy0
                        obtain ⟨N1, hN1⟩ : ∃ N, notes ++ [((2 : Int), (z : By))] = N := ⟨_, rfl⟩
                        have HN := Lib.hid (show parseI (ts.drop (j + 1)) out N1 = G by rw [← hN1, ← HG.out, HD.out]; exact (HBD.out _ _).symm)
                        have HN1 := Lib.hid hN1
                        have HLN := Lib.hid (show N1.length = notes.length + 1 by rw [← hN1]; simp)
                        have HS1 := Lib.hid (show ∀ f ∈ out, f.2.length ≤ 400 * (j + 1) + 60 from fun f hf => by have := HS.out f hf; omega)
                        clear hN1
                        go_wp2_with fail
                        refine (CK.out _).mono ?_
                        rintro en V2 ⟨rfl, hb2⟩
                        have HT := Lib.hid (HT.out.below hb2)
                        have HR2 := Lib.hid (HRV.out.below hb2)
                        have t0 := cell_below hb2 t0
                        have t1 := cell_below hb2 t1
                        clear hb2 HRV
                        go_wp2_with fail
                        refine (CA.out _ HR2.out).mono ?_
                        rintro en V3 ⟨g3, o3, c3, B3, d3, rfl, h3, hR3, hb3⟩
                        have HT := Lib.hid (HT.out.below hb3)
                        have t0 := cell_below hb3 t0
                        have t1 := cell_below hb3 t1
                        have CF := Lib.hid (rflat_any B3 d3 x V3 hR3 HM.out (by omega))
                        rw [hy] at CF
                        clear hb3 HR2 hR3
                        go_wp2_with fail
                        refine CF.out.mono ?_
                        rintro en V4 ⟨rfl, rfl⟩
                        go_wp2_with (at_builtin; refine two_note w V3 A B c d out notes (2) (z) rfl _ _ rfl rfl HT.out rfl (by omega) N1 HN1.out ?_; intro B1 b1 V1 HT1)
                        go_roundw
                        case rel => exact ⟨j + 1, A, c, out, B1, b1, N1, by go_num, by omega, rfl, rfl, HN, by omega, by have := HLN.out; omega, HS1, HT1⟩
                        case measure => simp [intOf]; omega
                      · have q0 : (y == ([] : By)) = false := by simpa using hy0
                        have i60 : (60 : Int) < (y.length : Int) := by
                          have := hbad.resolve_left hy0
                          omega
                        clear hbad hy0
                        obtain ⟨N1, hN1⟩ : ∃ N, notes ++ [((2 : Int), (z : By))] = N := ⟨_, rfl⟩
                        have HN := Lib.hid (show parseI (ts.drop (j + 1)) out N1 = G by rw [← hN1, ← HG.out, HD.out]; exact (HBD.out _ _).symm)
                        have HN1 := Lib.hid hN1
                        have HLN := Lib.hid (show N1.length = notes.length + 1 by rw [← hN1]; simp)
                        have HS1 := Lib.hid (show ∀ f ∈ out, f.2.length ≤ 400 * (j + 1) + 60 from fun f hf => by have := HS.out f hf; omega)
                        clear hN1
                        go_wp2_with fail
                        refine (CK.out _).mono ?_
                        rintro en V2 ⟨rfl, hb2⟩
                        have HT := Lib.hid (HT.out.below hb2)
                        have HR2 := Lib.hid (HRV.out.below hb2)
                        have t0 := cell_below hb2 t0
                        have t1 := cell_below hb2 t1
                        clear hb2 HRV
                        go_wp2_with fail
                        refine (CA.out _ HR2.out).mono ?_
                        rintro en V3 ⟨g3, o3, c3, B3, d3, rfl, h3, hR3, hb3⟩
                        have HT := Lib.hid (HT.out.below hb3)
                        have t0 := cell_below hb3 t0
                        have t1 := cell_below hb3 t1
                        have CF := Lib.hid (rflat_any B3 d3 x V3 hR3 HM.out (by omega))
                        rw [hy] at CF
                        clear hb3 HR2 hR3
                        go_wp2_with fail
                        refine CF.out.mono ?_
                        rintro en V4 ⟨rfl, rfl⟩
                        go_wp2_with (at_builtin; refine two_note w V3 A B c d out notes (2) (z) rfl _ _ rfl rfl HT.out rfl (by omega) N1 HN1.out ?_; intro B1 b1 V1 HT1)
                        go_roundw
                        case rel => exact ⟨j + 1, A, c, out, B1, b1, N1, by go_num, by omega, rfl, rfl, HN, by omega, by have := HLN.out; omega, HS1, HT1⟩
                        case measure => simp [intOf]; omega
                    · have HIT := Lib.hid (fun o m => p_item (out := o) (notes := m) Hne.out H13.out hg (by rw [hy]; exact hbad))
                      rw [HJ.out, hkz, hy] at HIT
                      have q0 : (y == ([] : By)) = false := by simpa using fun h => hbad (.inl h)
                      have i60 : (y.length : Int) ≤ 60 := by
                        have : ¬ 60 < y.length := fun h => hbad (.inr h)
                        omega
                      clear hg hkz p2 p3 p1 hj hbad
                      obtain ⟨O1, hO1⟩ : ∃ O, out ++ [(((n : Int) : Int), (y : By))] = O := ⟨_, rfl⟩
                      have HN := Lib.hid (show parseI (ts.drop (j + 1)) O1 notes = G by rw [← hO1, ← HG.out, HD.out]; exact (HIT.out _ _).symm)
                      have HO1 := Lib.hid hO1
                      have HLO := Lib.hid (show O1.length = out.length + 1 by rw [← hO1]; simp)
                      have HS1 := Lib.hid (show ∀ f ∈ O1, f.2.length ≤ 400 * (j + 1) + 60 from fun f hf => by
                        rw [← hO1] at hf
                        rcases List.mem_append.1 hf with q | q
                        · have := HS.out f q; omega
                        · simp at q; subst q; show y.length ≤ _; omega)
                      clear hO1
                      go_wp2_with fail
                      refine (CK.out _).mono ?_
                      rintro en V2 ⟨rfl, hb2⟩
                      have HT := Lib.hid (HT.out.below hb2)
                      have HR2 := Lib.hid (HRV.out.below hb2)
                      have t0 := cell_below hb2 t0
                      have t1 := cell_below hb2 t1
                      clear hb2 HRV
                      go_wp2_with fail
                      refine (CA.out _ HR2.out).mono ?_
                      rintro en V3 ⟨g3, o3, c3, B3, d3, rfl, h3, hR3, hb3⟩
                      have HT := Lib.hid (HT.out.below hb3)
                      have t0 := cell_below hb3 t0
                      have t1 := cell_below hb3 t1
                      have CF := Lib.hid (rflat_any B3 d3 x V3 hR3 HM.out (by omega))
                      rw [hy] at CF
                      clear hb3 HR2 hR3
                      go_wp2_with fail
                      refine CF.out.mono ?_
                      rintro en V4 ⟨rfl, rfl⟩
                      go_wp2_with (at_builtin; refine two_out w V3 _ B c d out notes ((n : Int)) (y) rfl _ _ rfl (by first | rfl | rw [hlen]) HT.out rfl (by omega) O1 HO1.out ?_; intro A1 a1 V1 HT1)
                      go_roundw
                      case rel => exact ⟨j + 1, A1, a1, O1, B, d, notes, by go_num, by omega, rfl, rfl, HN, by have := HLO.out; omega, by omega, HS1, HT1⟩
                      case measure => simp [intOf]; omega
            · have n4 : (κ == 4) = false := by simpa using q4
              have hlen : True := trivial
              have HN := Lib.hid (show parseI (ts.drop (k + 1)) out notes = G by rw [← HG.out, HD.out]; exact (p_other (by omega)).symm)
              have HS1 := Lib.hid (show ∀ f ∈ out, f.2.length ≤ 400 * (k + 1) + 60 from fun f hf => by have := HS.out f hf; omega)
              go_wp2_with fail
              go_roundw
              case rel => exact ⟨k + 1, _, c, out, B, d, notes, by go_num, by omega, by first | rfl | rw [hlen], rfl, HN, by omega, by omega, HS1, HT⟩
              case measure => simp [intOf]; omega
    · have HE := Lib.hid (show (out, notes) = G by rw [← HG.out, List.drop_of_length_le (by omega), parseI])
      have i1 : (ts.length : Int) ≤ (k : Int) := by omega
      go_wp2_with fail
      go_ret2
      rw [← HE.out]
      exact ⟨A, B, c, d, rfl, HT.out⟩
end Go.Proofs.YtckldeabbkdbjaaDoor
