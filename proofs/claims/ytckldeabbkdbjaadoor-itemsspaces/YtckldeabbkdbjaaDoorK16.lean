/-
  Package items: Parse.
-/
import Derived.Test.YtckldeabbkdbjaaDoorK15
namespace Go.Proofs.YtckldeabbkdbjaaDoor
open Go.RowKit

theorem say_last {w V : World} {n : Nat} {A : Option Addr} {c : Nat} {out : List Tok} {B : Option Addr} {d : Nat} {notes : List Tok} (h : Sd w V n A c out B d notes) (he : endT false out = true) : ∃ pre u, out = pre ++ [(1, u)] := by
  obtain ⟨u, _, h2⟩ := h.bu
  obtain ⟨pre, hp⟩ := h2 he
  exact ⟨pre, u, hp⟩
/-- A Word that is no empty one. -/
theorem say_any (w V : World) (n : Nat) (A : Option Addr) (c : Nat) (out : List Tok) (z : By) (B : Option Addr) (d : Nat) (notes : List Tok) (h : Sd w V n A c out B d notes) (hl : out.length ≤ 190000) (hz : z.length ≤ 100000) (hz0 : z ≠ []) (hs : ∀ f ∈ out, f.2.length ≤ 10000000) :
    Calls Tryd.prog 45 #[.agg #[.int .i64 1, .string ⟨z.toArray⟩], .pointer (some ⟨n + 2, 0, none⟩), .pointer (some ⟨n + 3, 0, none⟩), .pointer (some ⟨n + 1, 0, none⟩)] V (SayPost w n (addI out z) B d notes) := by
  cases he : endT false out with
  | true =>
    obtain ⟨pre, u, rfl⟩ := say_last h he
    rw [add_last]
    exact say_add w V n A c pre u z B d notes h (hs (1, u) (by simp)) hz
  | false =>
    rw [add_new he hz0]
    exact say_word w V n A c out z B d notes h he hl hz
theorem add_size {out : List Tok} {z : By} {N : Nat} (hs : ∀ f ∈ out, f.2.length ≤ N) : (∀ f ∈ addI out z, f.2.length ≤ N + z.length) ∧ (addI out z).length ≤ out.length + 1 := by
  rcases List.eq_nil_or_concat out with rfl | ⟨pre, f, hpf⟩
  · unfold addI
    simp only [List.getLast?_nil]
    split
    · exact ⟨fun f hf => (by cases hf), Nat.zero_le _⟩
    · refine ⟨fun f hf => ?_, by simp⟩
      simp at hf
      subst hf
      show z.length ≤ _
      omega
  · rw [List.concat_eq_append] at hpf
    subst hpf
    obtain ⟨κ, u⟩ := f
    have hu : u.length ≤ N := hs (κ, u) (by simp)
    unfold addI
    simp only [List.getLast?_concat]
    split
    · rw [List.dropLast_concat]
      refine ⟨fun f hf => ?_, by simp⟩
      rcases List.mem_append.1 hf with q | q
      · have := hs f (List.mem_append_left _ q); omega
      · simp at q; subst q; show (u ++ z).length ≤ _; rw [List.length_append]; omega
    · split
      · exact ⟨fun f hf => by have := hs f hf; omega, by omega⟩
      · refine ⟨fun f hf => ?_, by simp⟩
        rcases List.mem_append.1 hf with q | q
        · have := hs f q; omega
        · simp at q; subst q; show z.length ≤ _; omega
set_option maxRecDepth 100000 in
set_option maxHeartbeats 8000000 in
theorem parse_any (S : Option Addr) (sc : Nat) (ts : List Tok) (w : World) (hr : Rd w S ts) (hl : ts.length ≤ 400) (hcap : ts.length ≤ sc) (hc63 : sc ≤ 9223372036854775807) (hz : Hid (∀ t ∈ ts, t.2.length ≤ 4000)) :
    Calls Tryd.prog 10 #[.slice S ts.length sc] w (ItPost w (parseI ts [] [])) := by
  obtain ⟨G, hG⟩ : ∃ G, parseI ts [] [] = G := ⟨_, rfl⟩
  rw [hG]
  have HG0 := Lib.hid (show parseI (ts.drop 0) [] [] = G by rw [List.drop_zero, hG])
  have s1 : (w.alloc (.cells #[.slice none 0 0] 23)).heap.size = w.heap.size + 1 := by simp
  have CS := Lib.hid (sayer_any w.heap.size (w.alloc (.cells #[.slice none 0 0] 23)) s1)
  have CC := Lib.hid (commands_any ((((w.alloc (.cells #[.slice none 0 0] 23)).alloc (.cells #[.pointer (some ⟨w.heap.size, 0, none⟩)] 57)).alloc (.cells #[.pointer none] 84)).alloc (.cells #[.pointer none, .slice none 0 0] 87)))
  have s4 := Lib.hid (show ((((w.alloc (.cells #[.slice none 0 0] 23)).alloc (.cells #[.pointer (some ⟨w.heap.size, 0, none⟩)] 57)).alloc (.cells #[.pointer none] 84)).alloc (.cells #[.pointer none, .slice none 0 0] 87)).heap.size = w.heap.size + 4 by simp)
  clear hG s1
  go_enter Tryd.func10, Tryd.ntmps10
  go_wp2_with fail
  refine CS.out.mono ?_
  rintro e w1 ⟨rfl, rfl⟩
  unfold sayV
  go_wp2_with fail
  refine CC.out.mono ?_
  rintro e w3 ⟨rfl, hbm, hb3, _⟩
  rw [s4.out] at hbm hb3 ⊢
  have HT0 := Lib.hid (sd_start w w3 hb3 hbm)
  clear CS CC s4 hbm hb3
  obtain ⟨n, hn⟩ : ∃ n, w.heap.size = n := ⟨_, rfl⟩
  rw [hn] at HT0 ⊢
  go_wp2_with fail
  go_loopw [5, 8] (fun vn i wr => ∃ (k : Nat) (A : Option Addr) (c : Nat) (out : List Tok) (B : Option Addr) (d : Nat) (notes : List Tok), i = .int .i64 k ∧ k ≤ ts.length ∧ vn = .slice B notes.length d ∧ Hid (parseI (ts.drop k) out notes = G) ∧ out.length ≤ k ∧ notes.length ≤ k ∧ Hid (∀ f ∈ out, f.2.length ≤ 4000 * k + 60) ∧ Hid (Sd w wr n A c out B d notes)) (fun _ i _ => ts.length - (intOf i).toNat)
  case atStart => exact ⟨0, none, 0, [], none, 0, [], rfl, Nat.zero_le _, rfl, HG0, Nat.zero_le _, Nat.zero_le _, Lib.hid (fun f hf => by cases hf), HT0⟩
  case round =>
    obtain ⟨k, A, c, out, B, d, notes, rfl, hk, rfl, HG, hol, hnl, HS, HT⟩ := hrel
    by_cases hlt : k < ts.length
    · have hrw := hr.below (show Below w.heap.size w wr by rw [hn]; exact HT.out.sk.low)
      obtain ⟨b, o, hS, hcell⟩ := hrw (by omega)
      obtain ⟨f, hf⟩ : ∃ f, ts[k]? = some f := ⟨_, List.getElem?_eq_getElem hlt⟩
      obtain ⟨c1, c2⟩ := hcell k f hf
      have hzl := hz.out f (List.mem_of_getElem? hf)
      have HD := Lib.hid (drop_one hf)
      obtain ⟨κ, z⟩ := f
      simp only at c1 c2 hzl
      have i1 : (k : Int) < (ts.length : Int) := by omega
      have bV := one_below wr (.cells #[.int .i64 κ, .string ⟨z.toArray⟩] 48)
      have HT := Lib.hid (HT.out.below bV)
      have HRV := Lib.hid (hrw.below bV)
      have t0 := new_fst wr (.int .i64 κ) (.string ⟨z.toArray⟩) 48
      have t1 := new_snd wr (.int .i64 κ) (.string ⟨z.toArray⟩) 48
      obtain ⟨V, hV⟩ : ∃ V, wr.alloc (.cells #[.int .i64 κ, .string ⟨z.toArray⟩] 48) = V := ⟨_, rfl⟩
      rw [hV] at HT HRV t0 t1
      subst hS
      clear hf hcell hrw bV
      by_cases q1 : κ = 1
      · subst q1
        by_cases hz0 : z = []
        · have q0 : (z == ([] : By)) = true := by simpa using hz0
          have HN := Lib.hid (show parseI (ts.drop (k + 1)) out notes = G by
            rw [← HG.out, HD.out, parse_word, hz0]
            cases he : endT false out with
            | true => obtain ⟨pre, u, rfl⟩ := say_last HT.out he; rw [add_last, List.append_nil]
            | false => rw [add_nil he])
          have HS1 := Lib.hid (show ∀ f ∈ out, f.2.length ≤ 4000 * (k + 1) + 60 from fun f hf => by have := HS.out f hf; omega)
          clear hz0
          go_wp2_with fail
          go_roundw
          case rel => exact ⟨k + 1, A, c, out, B, d, notes, by go_num, by omega, rfl, HN, by omega, by omega, HS1, HT⟩
          case measure => simp [intOf]; omega
        · have q0 : (z == ([] : By)) = false := by simpa using hz0
          have HN := Lib.hid (show parseI (ts.drop (k + 1)) (addI out z) notes = G by rw [← HG.out, HD.out, parse_word])
          obtain ⟨z1, z2⟩ := add_size (z := z) HS.out
          have HS1 := Lib.hid (show ∀ f ∈ addI out z, f.2.length ≤ 4000 * (k + 1) + 60 from fun f hf => by have := z1 f hf; omega)
          have C := Lib.hid (say_any w V n A c out z B d notes HT.out (by omega) (by omega) hz0 (fun f hf => by have := HS.out f hf; omega))
          generalize addI out z = O1 at *
          clear hz0 z1 HT HS HG HD
          go_wp2_with fail
          refine C.out.mono ?_
          rintro e V1 ⟨rfl, A1, a1, hT1⟩
          have HT1 := Lib.hid hT1
          clear hT1 C
          go_wp2_with fail
          go_roundw
          case rel => exact ⟨k + 1, A1, a1, O1, B, d, notes, by go_num, by omega, rfl, HN, by omega, by omega, HS1, HT1⟩
          case measure => simp [intOf]; omega
      · have n1 : (κ == 1) = false := by simpa using q1
        by_cases q2 : κ = 2
        · subst q2
          have HN := Lib.hid (show parseI (ts.drop (k + 1)) (out ++ [((2 : Int), ([] : By))]) notes = G by rw [← HG.out, HD.out]; exact (parse_gap (.inl rfl) z _ _ _).symm)
          have HS1 := Lib.hid (show ∀ f ∈ out ++ [((2 : Int), ([] : By))], f.2.length ≤ 4000 * (k + 1) + 60 from fun f hf => by
            rcases List.mem_append.1 hf with q | q
            · have := HS.out f q; omega
            · simp at q; subst q; exact Nat.zero_le _)
          have C : Hid (Calls Tryd.prog 45 #[.agg #[.int .i64 2, .string ⟨#[]⟩], .pointer (some ⟨n + 2, 0, none⟩), .pointer (some ⟨n + 3, 0, none⟩), .pointer (some ⟨n + 1, 0, none⟩)] V (SayPost w n (out ++ [((2 : Int), ([] : By))]) B d notes)) := Lib.hid (say_other w V n A c out 2 [] B d notes HT.out (by decide) (by omega))
          have hlo : (out ++ [((2 : Int), ([] : By))]).length = out.length + 1 := by simp
          generalize out ++ [((2 : Int), ([] : By))] = O1 at *
          clear HT HS HG HD
          go_wp2_with fail
          refine C.out.mono ?_
          rintro e V1 ⟨rfl, A1, a1, hT1⟩
          have HT1 := Lib.hid hT1
          clear hT1 C
          go_wp2_with fail
          go_roundw
          case rel => exact ⟨k + 1, A1, a1, O1, B, d, notes, by go_num, by omega, rfl, HN, by omega, by omega, HS1, HT1⟩
          case measure => simp [intOf]; omega
        · have n2 : (κ == 2) = false := by simpa using q2
          by_cases q3 : κ = 3
          · subst q3
            have HN := Lib.hid (show parseI (ts.drop (k + 1)) (out ++ [((3 : Int), ([] : By))]) notes = G by rw [← HG.out, HD.out]; exact (parse_gap (.inr rfl) z _ _ _).symm)
            have HS1 := Lib.hid (show ∀ f ∈ out ++ [((3 : Int), ([] : By))], f.2.length ≤ 4000 * (k + 1) + 60 from fun f hf => by
              rcases List.mem_append.1 hf with q | q
              · have := HS.out f q; omega
              · simp at q; subst q; exact Nat.zero_le _)
            have C : Hid (Calls Tryd.prog 45 #[.agg #[.int .i64 3, .string ⟨#[]⟩], .pointer (some ⟨n + 2, 0, none⟩), .pointer (some ⟨n + 3, 0, none⟩), .pointer (some ⟨n + 1, 0, none⟩)] V (SayPost w n (out ++ [((3 : Int), ([] : By))]) B d notes)) := Lib.hid (say_other w V n A c out 3 [] B d notes HT.out (by decide) (by omega))
            have hlo : (out ++ [((3 : Int), ([] : By))]).length = out.length + 1 := by simp
            generalize out ++ [((3 : Int), ([] : By))] = O1 at *
            clear HT HS HG HD
            go_wp2_with fail
            refine C.out.mono ?_
            rintro e V1 ⟨rfl, A1, a1, hT1⟩
            have HT1 := Lib.hid hT1
            clear hT1 C
            go_wp2_with fail
            go_roundw
            case rel => exact ⟨k + 1, A1, a1, O1, B, d, notes, by go_num, by omega, rfl, HN, by omega, by omega, HS1, HT1⟩
            case measure => simp [intOf]; omega
          · have n3 : (κ == 3) = false := by simpa using q3
            by_cases q4 : κ = 4
            · subst q4
              have CM := meant_any (n + 4) (some ⟨b, o, none⟩) sc (k + 1) z ts V HT.out.sk.known HRV.out hl hcap hc63 (by omega) hzl hz
              obtain ⟨m1, m2, m3, m4, m5, m6⟩ := meant_size z ts (k + 1) (by omega)
              have MP := meant_parse z ts (k + 1) out notes
              obtain ⟨t, j, e, hte⟩ : ∃ t j e, meantG z ts (k + 1) = (t, j, e) := ⟨_, _, _, rfl⟩
              rw [hte] at CM m1 m2 m3 m4 m5 m6 MP
              obtain ⟨κ2, y⟩ := t
              simp only at m1 m2 m3 m4 m5 m6 MP
              rw [show ((k + 1 : Nat) : Int) = (k : Int) + 1 by omega] at CM
              have hG1 := HG.out
              rw [HD.out, MP] at hG1
              have HG1 := Lib.hid hG1
              have C := Lib.hid CM
              clear CM hG1 MP hte HG HD
              by_cases e0 : e = 0
              · subst e0
                have h2 := m6 rfl
                have HN := Lib.hid (show parseI (ts.drop j) (out ++ [(κ2, y)]) notes = G from by have := HG1.out; rwa [if_pos rfl] at this)
                have HS1 := Lib.hid (show ∀ f ∈ out ++ [(κ2, y)], f.2.length ≤ 4000 * j + 60 from fun f hf => by
                  rcases List.mem_append.1 hf with q | q
                  · have := HS.out f q; omega
                  · simp at q; subst q; show y.length ≤ _; omega)
                have CSY := Lib.hid (fun (V : World) (h : Sd w V n A c out B d notes) => say_other w V n A c out κ2 y B d notes h h2 (by omega))
                have hlo : (out ++ [(κ2, y)]).length = out.length + 1 := by simp
                generalize out ++ [(κ2, y)] = O1 at *
                clear HS HG1 m6 h2
                go_wp2_with fail
                refine C.out.mono ?_
                rintro en V2 ⟨rfl, hb2⟩
                have b3 := one_below V2 (.cells #[.int .i64 κ2, .string ⟨y.toArray⟩] 49)
                have HT3 := Lib.hid ((HT.out.below hb2).below b3)
                have HC3 := Lib.hid (CSY.out _ HT3.out)
                have r0 := new_fst V2 (.int .i64 κ2) (.string ⟨y.toArray⟩) 49
                have r1 := new_snd V2 (.int .i64 κ2) (.string ⟨y.toArray⟩) 49
                clear hb2 b3 C CSY HT
                go_wp2_with fail
                refine HC3.out.mono ?_
                rintro e V1 ⟨rfl, A1, a1, hT1⟩
                have HT1 := Lib.hid hT1
                clear hT1 HC3
                go_wp2_with fail
                go_roundw
                case rel => exact ⟨j, A1, a1, O1, B, d, notes, rfl, by omega, rfl, HN, by omega, by omega, HS1, HT1⟩
                case measure => simp [intOf]; omega
              · have q0 : (e == 0) = false := by simpa using e0
                have HN := Lib.hid (show parseI (ts.drop j) out (notes ++ [(e, z)]) = G from by have := HG1.out; rwa [if_neg e0] at this)
                have HS1 := Lib.hid (show ∀ f ∈ out, f.2.length ≤ 4000 * j + 60 from fun f hf => by have := HS.out f hf; omega)
                have hln : (notes ++ [(e, z)]).length = notes.length + 1 := by simp
                obtain ⟨N1, hN1⟩ : ∃ N, notes ++ [(e, z)] = N := ⟨_, rfl⟩
                rw [hN1] at HN hln
                have HN1 := Lib.hid hN1
                have HLN := Lib.hid hln
                clear hN1 hln HS HG1 m6
                go_wp2_with fail
                refine C.out.mono ?_
                rintro en V2 ⟨rfl, hb2⟩
                have b3 := one_below V2 (.cells #[.int .i64 κ2, .string ⟨y.toArray⟩] 49)
                have HT3 := Lib.hid ((HT.out.below hb2).below b3)
                have t0 := cell_below (bch hb2 b3) t0
                have t1 := cell_below (bch hb2 b3) t1
                obtain ⟨V3, hV3⟩ : ∃ V3, V2.alloc (.cells #[.int .i64 κ2, .string ⟨y.toArray⟩] 49) = V3 := ⟨_, rfl⟩
                rw [hV3] at HT3 t0 t1
                clear hb2 b3 C HT
                go_wp2_with (at_builtin; refine sd_note w V3 n A B c d out notes e z rfl _ _ rfl rfl HT3.out rfl (by omega) N1 HN1.out ?_; intro B1 b1 V1 HT1)
                go_roundw
                case rel => exact ⟨j, A, c, out, B1, b1, N1, rfl, by omega, rfl, HN, by omega, by have := HLN.out; omega, HS1, HT1⟩
                case measure => simp [intOf]; omega
            · have n4 : (κ == 4) = false := by simpa using q4
              have HN := Lib.hid (show parseI (ts.drop (k + 1)) out notes = G by
                rw [← HG.out, HD.out]
                rw [parseI, if_neg q1, if_neg (by omega), if_neg q4])
              have HS1 := Lib.hid (show ∀ f ∈ out, f.2.length ≤ 4000 * (k + 1) + 60 from fun f hf => by have := HS.out f hf; omega)
              go_wp2_with fail
              go_roundw
              case rel => exact ⟨k + 1, A, c, out, B, d, notes, by go_num, by omega, rfl, HN, by omega, by omega, HS1, HT⟩
              case measure => simp [intOf]; omega
    · have hk' : k = ts.length := by omega
      have HF := Lib.hid (show (out, notes) = G by rw [← HG.out, hk', List.drop_length, parse_end])
      have e0 : wr.cell? ⟨n, 0, none⟩ = some (.slice A out.length c) := cell_of HT.out.sk.said 0
      have hni : ¬ (k : Int) < (ts.length : Int) := by omega
      go_wp2_with fail
      go_ret2
      have hT := HT.out.sk
      obtain ⟨u1, u2, _⟩ := hT.out.cap
      rw [← HF.out]
      exact ⟨A, c, B, d, rfl, hT.out.rd, hT.notes.rd, u1, u2, by rw [hn]; exact hT.low⟩
end Go.Proofs.YtckldeabbkdbjaaDoor
