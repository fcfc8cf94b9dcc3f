/-
  The walk of DiskSwap: for every input it returns true; old memory stays.
-/
import Derived.Test.YtnfnbbipmempjaaI
namespace Go.Proofs.Ytnfnbbipmempjaa
open Go.RowKit

def cutL (l : List Tx) (q : Nat) : Tx := (l.getD q []).take 64
structure SwOk (l : List Tx) (ks : List Bool) (n i : Nat) (tn : List Bool) (sa sb : DS) : Prop where
  an : sa.n = 16
  bn : sb.n = 16
  alim : sa.lim = none
  blim : sb.lim = none
  acnt : sa.cnt = i
  bcnt : sb.cnt = i
  alen : sa.pend.length = i
  blen : sb.pend.length = i
  tlen : tn.length = i
  abase : sa.base = fun _ => []
  bbase : sb.base = fun _ => []
  al : ∀ q, lastOf (keptL sa.pend ks) q = if q < i ∧ ks[q]? = some true then some (cutL l q) else none
  bl : ∀ q, lastOf (keptL sb.pend tn) q = if (n ≤ q + i ∧ q < n) ∧ ks[q]? = some true then some (cutL l q) else none
theorem SwOk.start (l : List Tx) (ks : List Bool) (n : Nat) : SwOk l ks n 0 [] (newS 16) (newS 16) :=
  ⟨rfl, rfl, rfl, rfl, rfl, rfl, rfl, rfl, rfl, rfl, rfl, fun q => by simp [newS, keptL, lastOf], fun q => by
    rw [if_neg (by omega)]; rfl⟩
theorem SwOk.step {l : List Tx} {ks : List Bool} {n i k : Nat} {tn r : List Bool} {sa sb : DS} {x y t u : Tx} {v : Bool} (h : SwOk l ks n i tn sa sb) (hn : n ≤ 16) (hi : i < n) (hk : n = k + 1 + i) (hx : l[i]? = some x) (ht : x.take 64 = t) (hy : l[k]? = some y) (hu : y.take 64 = u)
    (hv : v = true ↔ ks[k]? = some true) (hr : tn ++ [v] = r) : writeE sa i t = 0 ∧ writeE sb k u = 0 ∧ SwOk l ks n (i + 1) r (writeS sa i t) (writeS sb k u) := by
  have htl : t.length ≤ 64 := by rw [← ht, List.length_take]; omega
  have hul : u.length ≤ 64 := by rw [← hu, List.length_take]; omega
  obtain ⟨e1, e2⟩ := write_none (i := i) h.an (by omega) h.alim htl
  obtain ⟨e3, e4⟩ := write_none (i := k) h.bn (by omega) h.blim hul
  rw [e2, e4, ← hr]
  have ct : cutL l i = t := by unfold cutL; simp [List.getD, hx, ht]
  have cu : cutL l k = u := by unfold cutL; simp [List.getD, hy, hu]
  refine ⟨e1, e3, h.an, h.bn, h.alim, h.blim, by show sa.cnt + 1 = _; rw [h.acnt], by show sb.cnt + 1 = _; rw [h.bcnt], by show (sa.pend ++ [(i, t)]).length = _; simp [h.alen], by show (sb.pend ++ [(k, u)]).length = _; simp [h.blen], by simp [h.tlen], h.abase, h.bbase, fun q => ?_, fun q => ?_⟩
  · show lastOf (keptL (sa.pend ++ [(i, t)]) ks) q = _
    rw [kept_snoc, h.alen]
    by_cases hki : ks[i]? = some true
    · rw [if_pos hki, lastOf_snoc]
      by_cases hq : i = q
      · subst hq
        rw [if_pos rfl, if_pos ⟨by omega, hki⟩, ct]
      · rw [if_neg hq, h.al q]
        by_cases h2 : q < i ∧ ks[q]? = some true
        · rw [if_pos h2, if_pos ⟨by omega, h2.2⟩]
        · rw [if_neg h2, if_neg (fun h3 => h2 ⟨by omega, h3.2⟩)]
    · rw [if_neg hki, h.al q]
      by_cases h2 : q < i ∧ ks[q]? = some true
      · rw [if_pos h2, if_pos ⟨by omega, h2.2⟩]
      · rw [if_neg h2, if_neg (fun h3 => h2 ⟨by rcases Nat.lt_or_ge q i with z | z; exact z; exact absurd (by rw [show i = q by omega]; exact h3.2) hki, h3.2⟩)]
  · show lastOf (keptL (sb.pend ++ [(k, u)]) (tn ++ [v])) q = _
    rw [kept_both _ _ _ _ (by rw [h.blen, h.tlen])]
    by_cases hkv : v = true
    · rw [if_pos hkv, lastOf_snoc]
      by_cases hq : k = q
      · subst hq
        rw [if_pos rfl, if_pos ⟨⟨by omega, by omega⟩, hv.1 hkv⟩, cu]
      · rw [if_neg hq, h.bl q]
        by_cases h2 : (n ≤ q + i ∧ q < n) ∧ ks[q]? = some true
        · rw [if_pos h2, if_pos ⟨⟨by omega, h2.1.2⟩, h2.2⟩]
        · rw [if_neg h2, if_neg (fun h3 => h2 ⟨⟨by omega, h3.1.2⟩, h3.2⟩)]
    · rw [if_neg hkv, h.bl q]
      by_cases h2 : (n ≤ q + i ∧ q < n) ∧ ks[q]? = some true
      · rw [if_pos h2, if_pos ⟨⟨by omega, h2.1.2⟩, h2.2⟩]
      · rw [if_neg h2, if_neg (fun h3 => h2 ⟨⟨by
          rcases Nat.lt_or_ge (q + i) n with z | z
          · exact absurd (hv.2 (by rw [show k = q by omega]; exact h3.2)) hkv
          · exact z, h3.1.2⟩, h3.2⟩)]
theorem SwOk.fin {l : List Tx} {ks tn : List Bool} {n : Nat} {sa sb : DS} (h : SwOk l ks n n tn sa sb) : ∀ q : Nat, q < 16 → readS (crashS sa ks) q = readS (crashS sb tn) q ∧ readE (crashS sa ks) q = 0 ∧ readE (crashS sb tn) q = 0 := fun q hq => by
  obtain ⟨a1, a2⟩ := read_still (st := crashS sa ks) (i := q) h.an rfl hq
  obtain ⟨b1, b2⟩ := read_still (st := crashS sb tn) (i := q) h.bn rfl hq
  rw [a1, b1, a2, b2]
  refine ⟨?_, rfl, rfl⟩
  show doL sa.base (keptL sa.pend ks) q = doL sb.base (keptL sb.pend tn) q
  unfold doL
  rw [h.al q, h.bl q, h.abase, h.bbase]
  by_cases h2 : q < n ∧ ks[q]? = some true
  · rw [if_pos h2, if_pos ⟨⟨by omega, h2.1⟩, h2.2⟩]
  · rw [if_neg h2, if_neg (fun h3 => h2 ⟨h3.1.2, h3.2⟩)]
theorem vb_is {ks : List Bool} {k : Nat} {v vv : Bool} (h : v = true ↔ ks[k]? = some true) (hv : ks[k]? = some vv) : vv = v := by
  rw [hv] at h
  cases v <;> cases vv <;> simp at h ⊢
theorem vb_no {ks : List Bool} {k : Nat} {v : Bool} (h : v = true ↔ ks[k]? = some true) (hk : ks.length ≤ k) : v = false := by
  rw [List.getElem?_eq_none hk] at h
  cases v
  · rfl
  · exact absurd (h.1 rfl) (by simp)
theorem drew_below (w : World) : Below w.heap.size w w.drew := ⟨rfl, rfl, rfl, Nat.le_refl _, fun _ _ => rfl⟩

set_option maxRecDepth 100000 in
set_option maxHeartbeats 4000000 in
theorem diskSwap_walk (A0 A1 : Option Addr) (c0 c1 : Nat) (l : List Tx) (ks : List Bool) (w : World) (hr : RdS w A0 l) (hq : RdB w A1 ks) (hl : l.length ≤ 9223372036854775807) (ha : ks.length ≤ 9223372036854775807) (hs : ∀ x ∈ l, x.length ≤ 9223372036854775807) :
    Calls Try.prog 7 #[.slice A0 l.length c0, .slice A1 ks.length c1] w fun e w' => e = .returned (.bool true) ∧ Below w.heap.size w w' := by
  have HR := Lib.hid hr
  have HQ := Lib.hid hq
  have HS := Lib.hid hs
  clear hr hq hs
  obtain ⟨n, hn⟩ : ∃ n : Nat, min (l.length : Int) 16 = n := ⟨min l.length 16, by omega⟩
  have en := min_run (l.length : Int) 16 n hn
  have hn1 : n ≤ l.length := by omega
  have hn2 : n ≤ 16 := by omega
  clear hn
  go_enter Try.func7, Try.ntmps7
  go_wp2_with fail
  refine (Mine.new w 16 (by omega) (by omega)).mono ?_
  rintro e w1 ⟨a, rfl, h1⟩
  have H1 := Lib.hid h1
  clear h1
  go_wp2_with fail
  refine (Two.new H1.out 16 (by omega) (by omega)).mono ?_
  rintro e w2 ⟨b, rfl, h2⟩
  have H2 := Lib.hid (And.intro (Two.grown (G' := fun x => rowB (some ⟨w2.heap.size, 0, none⟩) = some x) h2 (World.grownBy_alloc w2 (.cells #[] 4) none) (fun k hk => by cases hk) (fun x hx => by simp [rowB] at hx; subst hx; exact ⟨.inr (Nat.le_refl _), by simp⟩)) (own_none_b w2))
  clear h2 H1
  go_wp2_with fail
  generalize w2.alloc (.cells #[] 4) = w3 at *
  generalize w2.heap.size = g at *
  clear en
  go_loopw [10, 11] (fun vk vi wr => ∃ (i : Nat) (A : Option Addr) (c : Nat) (tn : List Bool) (sa sb : DS), i ≤ n ∧ vi = .int .i64 i ∧ vk = .slice A tn.length c ∧ Two (fun x => rowB A = some x) w wr a b sa sb ∧ OwnR wr 4 1 A tn.length c (bcells tn) ∧ SwOk l ks n i tn sa sb)
    (fun _ vi _ => n - (intOf vi).toNat)
  case atStart => exact ⟨0, some ⟨g, 0, none⟩, 0, [], newS 16, newS 16, Nat.zero_le _, rfl, rfl, H2.out.1, H2.out.2, SwOk.start l ks n⟩
  case round =>
    obtain ⟨i, A, c, tn, sa, sb, hi, rfl, rfl, ht, hown, ho⟩ := hrel
    have HT := Lib.hid ht
    have HW := Lib.hid hown
    have HO := Lib.hid ho
    clear ht hown ho H2
    by_cases hlt : i < n
    · obtain ⟨k, hk⟩ : ∃ k, n = k + 1 + i := ⟨n - 1 - i, by omega⟩
      have ek : (n : Int) - 1 - (i : Int) = (k : Int) := by omega
      have hkl : k < l.length := by omega
      obtain ⟨x, hx⟩ : ∃ x, l[i]? = some x := ⟨_, List.getElem?_eq_getElem (by omega)⟩
      obtain ⟨y, hy⟩ : ∃ y, l[k]? = some y := ⟨_, List.getElem?_eq_getElem hkl⟩
      obtain ⟨b0, o, rfl, hcell⟩ := HR.out (by rw [scells_len]; omega)
      have cx0 := hcell i _ (scells_at hx)
      have cy0 := hcell k _ (scells_at hy)
      have hb0 : b0 < w.heap.size := World.block_lt_of_cell? _ _ cx0
      have cx := (HT.out.below.cell hb0).trans cx0
      have cy := (HT.out.below.cell hb0).trans cy0
      have CX := Lib.hid (And.intro hb0 (And.intro cx0 cy0))
      have hxl := HS.out x (List.mem_of_getElem? hx)
      have hyl := HS.out y (List.mem_of_getElem? hy)
      obtain ⟨p, t, HTt, htl, e1, e2⟩ := cut_facts x 64 64 rfl
      obtain ⟨p', u, HU, hul, e3, e4⟩ := cut_facts y 64 64 rfl
      have hca : sa.cnt < 1000 := by have := HO.out.acnt; omega
      have hcb : sb.cnt < 1000 := by have := HO.out.bcnt; omega
      obtain ⟨v, hv⟩ : ∃ v : Bool, v = true ↔ ks[k]? = some true := ⟨decide (ks[k]? = some true), by simp⟩
      obtain ⟨r, hr0⟩ : ∃ r, tn ++ [v] = r := ⟨_, rfl⟩
      have HR0 := Lib.hid hr0
      have HV := Lib.hid hv
      obtain ⟨z1, z2, z3⟩ := HO.out.step hn2 hlt hk hx HTt.out hy HU.out hv hr0
      have CA := Lib.hid (fun (w9 : World) (h9 : Two (fun x => rowB A = some x) w w9 a b sa sb) => h9.writeA (i : Int) t hca (by omega))
      obtain ⟨sa', hsa⟩ : ∃ sa', writeS sa (i : Int) t = sa' := ⟨_, rfl⟩
      obtain ⟨sb', hsb⟩ : ∃ sb', writeS sb (k : Int) u = sb' := ⟨_, rfl⟩
      rw [hsa] at CA z3
      rw [hsb] at z3
      rw [z1] at CA
      have CB := Lib.hid (fun (w9 : World) (h9 : Two (fun x => rowB A = some x) w w9 a b sa' sb) => h9.writeB (k : Int) u hcb (by omega))
      rw [z2, hsb] at CB
      have Z := Lib.hid z3
      have htn : tn.length ≤ 16 := by have := HO.out.tlen; omega
      have HK := Lib.hid hk
      have i1 : (i : Int) < (l.length : Int) := by omega
      have i2 : (k : Int) < (l.length : Int) := by omega
      have HT2 : Hid (Two (fun x => rowB A = some x) w wr.drew a b sa sb) := HT.out.kp (drew_below wr)
      have HW2 : Hid (OwnR wr.drew 4 1 A tn.length c (bcells tn)) := HW.out.kp (kno wr).drew (fun _ _ h => h)
      clear hx hy hcell cx0 cy0 hb0 hr0 hv z1 z2 z3 hsa hsb HO HT HW hk
      go_wp2_with fail
      clear ek
      go_region_held3 (fun w' => w'.cell? ⟨b0, o + i, none⟩ = some (.string ⟨x.toArray⟩) ∧ w'.cell? ⟨b0, o + k, none⟩ = some (.string ⟨y.toArray⟩))
        (first
          | go_keep
          | exact ⟨(h5.below.cell CX.out.1).trans CX.out.2.1, (h5.below.cell CX.out.1).trans CX.out.2.2⟩
          | exact ⟨(h6.below.cell CX.out.1).trans CX.out.2.1, (h6.below.cell CX.out.1).trans CX.out.2.2⟩)
        (first
          | (go_at_call 17; (with_reducible refine (CA.out _ HT2.out).mono ?_); rintro e w5 ⟨rfl, h5, k5⟩)
          | (go_at_call 17; (with_reducible refine (CB.out _ h5).mono ?_); rintro e w6 ⟨rfl, h6, k6⟩))
      have HW5 := Lib.hid (HW2.out.of_block k5)
      have hlow := h6.below
      clear h5 k5 CA CB HT2 HW2 cx cy e1 e2 e3 e4
      by_cases hkk : k < ks.length
      · obtain ⟨vv, hvv⟩ : ∃ vv, ks[k]? = some vv := ⟨_, List.getElem?_eq_getElem hkk⟩
        obtain rfl : vv = v := vb_is HV.out hvv
        obtain ⟨b2, o2, rfl, hcb2⟩ := HQ.out.below hlow (by rw [bcells_len]; omega)
        have c3 := hcb2 k _ (bcells_at hvv)
        have i3 : (k : Int) < (ks.length : Int) := by omega
        clear hcb2 hvv HV hlow
        cases vv
        · have HW6 := Lib.hid ((HW5.out.of_block k6).kp ((kno w6).alloc (.cells #[.bool false] 4)) (fun _ _ h => h))
          have H6 := Lib.hid (h6.alloc (.cells #[.bool false] 4))
          clear h6 k6 HW5
          go_wp2_with (at_builtin; refine wpList_append_b _ rfl _ _ rfl A tn.length c tn rfl rfl HW6.out w6.heap.size false rfl (cell_of (blk_new _ _) 0) (by omega) r HR0.out ?_; intro A7 c7 w7 hown7 hg7 hl7; have H7 := Lib.hid (And.intro hown7 (Two.grown (G' := fun x => rowB A7 = some x) H6.out hg7 (fun k hk => hk) (fun x hx => ⟨by rcases hl7 x hx with z | z; exact .inl z; exact .inr (by omega), OwnR.lt hown7 hx⟩))); clear hown7 hg7 hl7)
          go_roundw
          case rel => exact ⟨i + 1, A7, c7, r, sa', sb', by omega, by go_num, rfl, H7.out.2, H7.out.1, Z.out⟩
          case measure => simp [intOf]; omega
        · have HW6 := Lib.hid ((HW5.out.of_block k6).kp ((kno w6).alloc (.cells #[.bool true] 4)) (fun _ _ h => h))
          have H6 := Lib.hid (h6.alloc (.cells #[.bool true] 4))
          clear h6 k6 HW5
          go_wp2_with (at_builtin; refine wpList_append_b _ rfl _ _ rfl A tn.length c tn rfl rfl HW6.out w6.heap.size true rfl (cell_of (blk_new _ _) 0) (by omega) r HR0.out ?_; intro A7 c7 w7 hown7 hg7 hl7; have H7 := Lib.hid (And.intro hown7 (Two.grown (G' := fun x => rowB A7 = some x) H6.out hg7 (fun k hk => hk) (fun x hx => ⟨by rcases hl7 x hx with z | z; exact .inl z; exact .inr (by omega), OwnR.lt hown7 hx⟩))); clear hown7 hg7 hl7)
          go_roundw
          case rel => exact ⟨i + 1, A7, c7, r, sa', sb', by omega, by go_num, rfl, H7.out.2, H7.out.1, Z.out⟩
          case measure => simp [intOf]; omega
      · obtain rfl : v = false := vb_no HV.out (by omega)
        have i3 : ¬ (k : Int) < (ks.length : Int) := by omega
        clear HV hlow
        have HW6 := Lib.hid ((HW5.out.of_block k6).kp ((kno w6).alloc (.cells #[.bool false] 4)) (fun _ _ h => h))
        have H6 := Lib.hid (h6.alloc (.cells #[.bool false] 4))
        clear h6 k6 HW5
        go_wp2_with (at_builtin; refine wpList_append_b _ rfl _ _ rfl A tn.length c tn rfl rfl HW6.out w6.heap.size false rfl (cell_of (blk_new _ _) 0) (by omega) r HR0.out ?_; intro A7 c7 w7 hown7 hg7 hl7; have H7 := Lib.hid (And.intro hown7 (Two.grown (G' := fun x => rowB A7 = some x) H6.out hg7 (fun k hk => hk) (fun x hx => ⟨by rcases hl7 x hx with z | z; exact .inl z; exact .inr (by omega), OwnR.lt hown7 hx⟩))); clear hown7 hg7 hl7)
        go_roundw
        case rel => exact ⟨i + 1, A7, c7, r, sa', sb', by omega, by go_num, rfl, H7.out.2, H7.out.1, Z.out⟩
        case measure => simp [intOf]; omega
    · obtain rfl : i = n := by omega
      have Z := Lib.hid HO.out.fin
      have htn : tn.length ≤ 16 := by have := HO.out.tlen; omega
      have C1 := Lib.hid (HT.out.crashA A1 c1 ks (HQ.out.below HT.out.below) ha)
      obtain ⟨s1, hs1⟩ : ∃ s1, crashS sa ks = s1 := ⟨_, rfl⟩
      obtain ⟨s2, hs2⟩ : ∃ s2, crashS sb tn = s2 := ⟨_, rfl⟩
      rw [hs1] at C1 Z
      rw [hs2] at Z
      have HS2 := Lib.hid hs2
      clear hs1 hs2 HT HO hlt
      go_wp2_with fail
      refine C1.out.mono ?_
      rintro e w5 ⟨rfl, h5, k5⟩
      have C2 := Lib.hid (h5.crashB A c tn (OwnR.rdC (HW.out.of_block k5)) (by omega))
      rw [HS2.out] at C2
      clear h5 k5 C1 HW HS2
      go_wp2_with fail
      refine C2.out.mono ?_
      rintro e w6 ⟨rfl, h6, -⟩
      have H6 := Lib.hid h6
      clear h6 C2
      go_wp2_with fail
      go_loopw [13] (fun i wr => ∃ (q : Nat), q ≤ 16 ∧ i = .int .i64 q ∧ Two (fun x => rowB A = some x) w wr a b s1 s2) (fun i _ => 16 - (intOf i).toNat)
      case atStart => exact ⟨0, by omega, rfl, H6.out⟩
      case round =>
        obtain ⟨q, hq, rfl, hm⟩ := hrel
        have HM := Lib.hid hm
        clear H6 hm
        by_cases hq6 : q < 16
        · obtain ⟨z1, z2, z3⟩ := Z.out q hq6
          obtain ⟨T, hT⟩ : ∃ T, readS s2 q = T := ⟨_, rfl⟩
          have C := Lib.hid (HM.out.readA q)
          have C3 := Lib.hid (HM.out.readB q)
          rw [z2, z1, hT] at C
          rw [z3, hT] at C3
          clear z1 z2 z3 hT
          go_wp2_with fail
          refine C.out.mono ?_
          rintro e w7 ⟨rfl, rfl⟩
          clear C
          go_wp2_with fail
          refine C3.out.mono ?_
          rintro e w7 ⟨rfl, rfl⟩
          clear C3
          go_wp2_with fail
          go_roundw
          case rel => exact ⟨q + 1, by omega, by go_num, HM.out⟩
          case measure => simp [intOf]; omega
        · obtain rfl : q = 16 := by omega
          go_wp2_with fail
          refine (fixed_any _).mono ?_
          rintro e w8 ⟨rfl, h8⟩
          have H8 := Lib.hid (HM.out.below.trans (h8.mono HM.out.below.size))
          clear h8 HM
          go_wp2
          go_ret
          exact ⟨rfl, H8.out⟩
end Go.Proofs.Ytnfnbbipmempjaa
