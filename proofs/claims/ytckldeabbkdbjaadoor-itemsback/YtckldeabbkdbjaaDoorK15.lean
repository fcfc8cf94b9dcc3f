/-
  What the laws ask of the landed package items, and the laws' fixed calls.
  Package items: what Parse holds; the start, and a note behind others.
-/
import Derived.Test.YtckldeabbkdbjaaDoorK13
import Derived.Test.YtckldeabbkdbjaaDoorK06
import Derived.Test.YtckldeabbkdbjaaDoorK04
import Derived.Test.YtckldeabbkdbjaaDoorK14
import Derived.Test.YtckldeabbkdbjaaDoorK09
import Derived.Test.YtckldeabbkdbjaaDoorK12
namespace Go.Proofs.YtckldeabbkdbjaaDoor
open Go.RowKit

/-- Items and notes, in memory that is not written. -/
def ItPost (w : World) (r : List Tok × List Tok) (en : Ending) (w' : World) : Prop :=
  ∃ A c B d, en = .returned (.tuple #[.slice A r.1.length c, .slice B r.2.length d]) ∧ Rd w' A r.1 ∧ Rd w' B r.2 ∧ r.1.length ≤ c ∧ c ≤ 9223372036854775807 ∧ Below w.heap.size w w'
/-- What the landed package answers. -/
structure Landed : Prop where
  parse : ∀ (S : Option Addr) (sc : Nat) (ts : List Tok) (w : World), Rd w S ts → ts.length ≤ 400 → ts.length ≤ sc → sc ≤ 9223372036854775807 → Hid (∀ t ∈ ts, t.2.length ≤ 4000) → Calls Tryd.prog 10 #[.slice S ts.length sc] w (ItPost w (parseI ts [] []))
  right : ∀ (S : Option Addr) (sc : Nat) (ts : List Tok) (w : World), Rd w S ts → ts.length ≤ 400 → ts.length ≤ sc → sc ≤ 9223372036854775807 → Hid (∀ t ∈ ts, t.2.length ≤ 4000) → Hid (∀ t ∈ ts, W64 t.1) → M0 w → Calls Tryd.prog 16 #[.slice S ts.length sc] w fun e w' => e = .returned (.bool (rightI false ts)) ∧ Below w.heap.size w w'
  shown : ∀ (S : Option Addr) (sc : Nat) (ts : List Tok) (w : World), Rd w S ts → ts.length ≤ 400 → ts.length ≤ sc → sc ≤ 9223372036854775807 → Hid (∀ t ∈ ts, t.2.length ≤ 4000) → Hid (∀ t ∈ ts, W64 t.1) → Calls Tryd.prog 19 #[.slice S ts.length sc] w (Res 48 w (showI ts))
theorem parse_end (o n : List Tok) : parseI [] o n = (o, n) := by rw [parseI]
theorem jlit_read (w : World) (ts : List Tok) (t : TypeId) : Rd (w.alloc (.cells (fcells ts).toArray t)) (some ⟨w.heap.size, 0, none⟩) ts := fun _ => by
  refine ⟨w.heap.size, 0, rfl, fun i f hi => ?_⟩
  obtain ⟨h1, h2⟩ := fcells_at ts i f hi
  have hb := heap_alloc_new w (.cells (fcells ts).toArray t)
  rw [Nat.zero_add]
  exact ⟨(cell_of hb _).trans (by simpa using h1), (cell_of hb _).trans (by simpa using h2)⟩
theorem items_lit (A : Option Addr) (c d n : Nat) (ts : List Tok) (w : World) (o : Array Value) (ho : o = (fcells ts).toArray) (hn : n = ts.length) (hr : Rd w A ts) (hl : ts.length ≤ 1000) :
    Calls Tryd.prog 13 #[.slice A ts.length c, .slice (some ⟨w.heap.size, 0, none⟩) n d] (w.alloc (.cells o 66)) fun e w' => e = .returned (.bool true) ∧ Below w.heap.size w w' := by
  subst ho hn
  refine (ritems_any A _ c d ts ts _ (hr.alloc _) (jlit_read w ts 66) (by omega) (by omega)).mono ?_
  rintro e w' ⟨rfl, n, rfl⟩
  exact ⟨ret_bool (decide_eq_true rfl), (one_below w _).trans ⟨rfl, rfl, rfl, Nat.le_refl _, fun _ _ => rfl⟩⟩
theorem notes_lit (A : Option Addr) (c d n : Nat) (ts : List Tok) (w : World) (o : Array Value) (ho : o = (fcells ts).toArray) (hn : n = ts.length) (hr : Rd w A ts) (hl : ts.length ≤ 1000) :
    Calls Tryd.prog 15 #[.slice A ts.length c, .slice (some ⟨w.heap.size, 0, none⟩) n d] (w.alloc (.cells o 64)) fun e w' => e = .returned (.bool true) ∧ Below w.heap.size w w' := by
  subst ho hn
  refine (rnotes_any A _ c d ts ts _ (hr.alloc _) (jlit_read w ts 64) (by omega) (by omega)).mono ?_
  rintro e w' ⟨rfl, n, rfl⟩
  exact ⟨ret_bool (decide_eq_true rfl), (one_below w _).trans ⟨rfl, rfl, rfl, Nat.le_refl _, fun _ _ => rfl⟩⟩
theorem right7_lit (L : Landed) (w : World) (h0 : M0 w) : Calls Tryd.prog 16 #[.slice (some ⟨w.heap.size, 0, none⟩) 1 1] (w.alloc (.cells #[.int .i64 7, .string ⟨#[]⟩] 49)) fun e w' => e = .returned (.bool false) ∧ Below w.heap.size w w' := by
  refine (L.right (some ⟨w.heap.size, 0, none⟩) 1 [(7, [])] (w.alloc (.cells #[.int .i64 7, .string ⟨#[]⟩] 49)) (one_read (new_fst _ _ _ _) (new_snd _ _ _ _)) (by simp) (by simp) (by omega) (Lib.hid (by intro t ht; simp at ht; subst ht; simp)) (Lib.hid (by intro t ht; simp at ht; subst ht; unfold W64; simp)) (h0.below (one_below _ _))).mono ?_
  rintro e w' ⟨rfl, hb⟩
  exact ⟨rfl, bch (one_below w _) hb⟩
def gxS : By := [97, 92, 114, 101, 102, 123, 107, 125, 46, 92, 116, 111, 99]
def gxT : List Tok := [(1, [97]), (4, [114, 101, 102]), (5, []), (1, [107]), (6, []), (1, [46]), (4, [116, 111, 99])]
def gxI : List Tok := [(1, [97]), (7, [107]), (1, [46]), (14, [])]
def hxS : By := [97, 123, 98, 125, 99, 92, 102, 111, 111, 92, 99, 105, 116, 101, 32, 120, 92, 108, 97, 98, 101, 108, 123, 32, 125]
def hxT : List Tok := [(1, [97]), (5, []), (1, [98]), (6, []), (1, [99]), (4, [102, 111, 111]), (4, [99, 105, 116, 101]), (2, []), (1, [120]), (4, [108, 97, 98, 101, 108]), (5, []), (2, []), (6, [])]
def hxI : List Tok := [(1, [97, 98, 99]), (2, []), (1, [120])]
def hxN : List Tok := [(11, [102, 111, 111]), (10, [99, 105, 116, 101]), (2, [108, 97, 98, 101, 108])]
theorem gx_toks : toks gxS = gxT := by decide +kernel
theorem hx_toks : toks hxS = hxT := by decide +kernel
theorem gx_show : showI gxI = gxT := by decide +kernel
theorem gx_text : textL gxT = gxS := by decide +kernel
theorem gx_right : rightI false gxI = true := by decide +kernel
theorem gx_parse : parseI gxT [] [] = (gxI, []) := by
  unfold gxT
  rw [p_word, p_item (x := [(1, [107])]) (p := 3) (by decide +kernel) (by decide +kernel) (by decide +kernel) (by decide +kernel)]
  simp only [List.drop_succ_cons, List.drop_zero]
  rw [p_word, p_lone (by decide +kernel), parse_end]
  decide +kernel
theorem hx_parse : parseI hxT [] [] = (hxI, hxN) := by
  unfold hxT
  rw [p_word, p_other (by decide), p_word, p_other (by decide), p_word, p_none (by decide +kernel), p_bad (by decide +kernel) (by decide +kernel) (by decide +kernel), parse_gap (.inl rfl), p_word, p_note2 (x := [(2, [])]) (p := 3) (by decide +kernel) (by decide +kernel) (by decide +kernel) (by decide +kernel)]
  simp only [List.drop_succ_cons, List.drop_zero]
  rw [parse_end]
  decide +kernel
theorem gx_mild : (∀ t ∈ gxT, t.2.length ≤ 4000) ∧ (∀ t ∈ hxT, t.2.length ≤ 4000) ∧ ∀ t ∈ gxI, t.2.length ≤ 4000 := by
  refine ⟨?_, ?_, ?_⟩ <;> decide +kernel
/-- Kinds of right items. -/
theorem right_kind : ∀ (l : List Tok) (p : Bool), rightI p l = true → ∀ t ∈ l, W64 t.1
  | [], _, _ => fun t ht => by cases ht
  | f :: r, p, h => fun t ht => by
    simp only [rightI, Bool.and_eq_true] at h
    rcases List.mem_cons.1 ht with rfl | q
    · have h1 := h.1.1
      unfold okI at h1
      unfold W64
      split at h1
      · omega
      · split at h1
        · omega
        · split at h1
          · omega
          · cases h1
    · exact right_kind r _ h.2 t q
theorem cutI_kind {l : List Tok} (n : Nat) (h : ∀ t ∈ l, W64 t.1) : ∀ t ∈ cutI n l, W64 t.1 := fun t ht => by
  unfold cutI at ht
  obtain ⟨x, hx, rfl⟩ := List.mem_map.1 ht
  exact h x (List.mem_of_mem_take hx)
theorem lex_known (s : By) (ts : List Tok) (w : World) (hs : s.length ≤ 1000) (h : toks s = ts) : Calls Tryd.prog 22 #[.string ⟨s.toArray⟩] w (Res 48 w ts) := by
  have := lex_any ⟨s.toArray⟩ w (by show s.length ≤ _; omega)
  rw [show (⟨s.toArray⟩ : ByteArray).data.toList = s from rfl, h] at this
  exact this
end Go.Proofs.YtckldeabbkdbjaaDoor

namespace Go.Proofs.YtckldeabbkdbjaaDoor
open Go.RowKit

theorem meant_size (z : By) (ts : List Tok) (a : Nat) (ha : a ≤ ts.length) : a ≤ (meantG z ts a).2.1 ∧ (meantG z ts a).2.1 ≤ ts.length ∧ 0 ≤ (meantG z ts a).2.2 ∧ (meantG z ts a).2.2 ≤ 11 ∧ (meantG z ts a).1.2.length ≤ 60 ∧ ((meantG z ts a).2.2 = 0 → (meantG z ts a).1.1 ≠ 1) := by
  have hk := kind_le z
  unfold meantG
  split
  · exact ⟨Nat.le_refl _, ha, by show (0 : Int) ≤ 11; decide, by show (11 : Int) ≤ 11; decide, Nat.zero_le _, fun h => absurd (show (11 : Int) = 0 from h) (by decide)⟩
  · rename_i h0
    split
    · exact ⟨Nat.le_refl _, ha, by show (0 : Int) ≤ 0; decide, by show (0 : Int) ≤ 11; decide, Nat.zero_le _, fun _ => by show (kindI z : Int) ≠ 1; omega⟩
    · split
      · exact ⟨Nat.le_refl _, ha, by show (0 : Int) ≤ 10; decide, by show (10 : Int) ≤ 11; decide, Nat.zero_le _, fun h => absurd (show (10 : Int) = 0 from h) (by decide)⟩
      · rename_i x p hg
        obtain ⟨_, p2, _⟩ := grp1_le hg
        rw [List.length_drop] at p2
        split
        · exact ⟨by show a ≤ a + p; omega, by show a + p ≤ _; omega, by show (0 : Int) ≤ 2; decide, by show (2 : Int) ≤ 11; decide, Nat.zero_le _, fun h => absurd (show (2 : Int) = 0 from h) (by decide)⟩
        · rename_i hb
          exact ⟨by show a ≤ a + p; omega, by show a + p ≤ _; omega, by show (0 : Int) ≤ 0; decide, by show (0 : Int) ≤ 11; decide, by show (flatL x).length ≤ 60; omega, fun _ => by show (kindI z : Int) ≠ 1; omega⟩
theorem meant_parse (z : By) (ts : List Tok) (a : Nat) (out notes : List Tok) : parseI ((4, z) :: ts.drop a) out notes = if (meantG z ts a).2.2 = 0 then parseI (ts.drop (meantG z ts a).2.1) (out ++ [(meantG z ts a).1]) notes else parseI (ts.drop (meantG z ts a).2.1) out (notes ++ [((meantG z ts a).2.2, z)]) := by
  unfold meantG
  by_cases h0 : kindI z = 0
  · simp only [if_pos h0]
    rw [p_none h0, if_neg (by decide)]
  · simp only [if_neg h0]
    by_cases h1 : 13 < kindI z
    · simp only [if_pos h1]
      rw [p_lone h1, if_pos trivial]
    · simp only [if_neg h1]
      rcases hg : grp1 (ts.drop a) with _ | ⟨x, p⟩
      · simp only
        rw [p_bad h0 h1 hg, if_neg (by decide)]
      · simp only
        by_cases hb : flatL x = [] ∨ 60 < (flatL x).length
        · simp only [if_pos hb]
          rw [p_note2 h0 h1 hg hb, if_neg (by decide), List.drop_drop]
        · simp only [if_neg hb]
          rw [p_item h0 h1 hg hb, if_pos trivial, List.drop_drop]
theorem Bu.grownT {V V' : World} {n t base c : Nat} {A : Option Addr} {fs : List Tok} {u : By} (hb : Bu V n u) (h : Own t V base A c fs) (h5 : t ≠ 5) (h87 : t ≠ 87) (hg : V.grownBy V' (Value.slice A fs.length c).ownBlock) : Bu V' n u := hb.but fun k o hk ho => by
  refine (hg.block _ (lt_of_blk hk) fun e => ?_).trans hk
  rcases ho with rfl | ⟨cs, fz, rfl⟩
  · obtain ⟨p, v, hb⟩ := hb.blk
    exact own_ne h hb h87 e.symm
  · exact own_ne h hk h5 e.symm
theorem Sd.noted {w V V' : World} {n : Nat} {A : Option Addr} {c : Nat} {out : List Tok} {B : Option Addr} {d : Nat} {notes : List Tok} (h : Sd w V n A c out B d notes) {B' : Option Addr} {d' : Nat} {r : List Tok} (ho : Own 64 V' n B' d' r) (hg : V.grownBy V' (Value.slice B notes.length d).ownBlock) : Sd w V' n A c out B' d' r := by
  obtain ⟨sk, u, hu, he⟩ := h
  have kept : ∀ {k : Nat} {o : Obj}, V.heap[k]? = some o → some k ≠ (Value.slice B notes.length d).ownBlock → V'.heap[k]? = some o := fun hk hne => (hg.block _ (lt_of_blk hk) hne).trans hk
  have hap := rows_apartI sk.out sk.notes (by decide)
  exact ⟨⟨kept sk.said (own_ne sk.notes sk.said (by decide)).symm, kept sk.box (own_ne sk.notes sk.box (by decide)).symm, kept sk.last (own_ne sk.notes sk.last (by decide)).symm, sk.known.of_block (hg.block _ sk.known.lt (own_ne_map sk.notes sk.known).symm), row_keepI sk.out fun g hgg => hg.block g (World.ownsRow.lt sk.out g hgg).2 fun e => hap g hgg e.symm, ho, sk.low.trans (below_grown sk.notes hg (by have := sk.size; omega))⟩, u, hu.grownT sk.notes (by decide) (by decide) hg, he⟩
theorem sd_note {ops : Array Oper} {rest : List Oper} {o : Oper} {a : Act} {Q : Exit → Act → World → Prop} (w V : World) (n : Nat) (A B : Option Addr) (c d : Nat) (out notes : List Tok) (κ : Int) (z : By) (hgd : o.guard = none) (s x : Operand)
    (ho : o.op = .call { callee := .builtin .append, args := #[s, x], argTypes := #[26, 26] }) (hs : a.eval s = .slice B notes.length d) (hT : Sd w V n A c out B d notes) (hx : a.eval x = .slice (some ⟨V.heap.size, 0, none⟩) 1 1) (hlen : notes.length ≤ 190000) (r : List Tok) (hr0 : notes ++ [(κ, z)] = r)
    (h : ∀ B' d' V', Hid (Sd w V' n A c out B' d' r) → wpList Tryd.prog ops Q rest (a.put o.dst (.slice B' r.length d')) V') : wpList Tryd.prog ops Q (o :: rest) a (V.alloc (.cells #[.int .i64 κ, .string ⟨z.toArray⟩] 64)) := by
  have b1 := one_below V (.cells #[.int .i64 κ, .string ⟨z.toArray⟩] 64)
  have hT1 := hT.below b1
  refine wpList_append_n _ hgd s x ho n B d notes hs hT1.sk.notes (some ⟨V.heap.size, 0, none⟩) 1 1 [(κ, z)] rfl hx (one_read (new_fst V _ _ _) (new_snd V _ _ _)) (by show notes.length + 1 ≤ _; omega) (by have := hT1.sk.size; omega) r hr0 fun B' d' V' ho' hg _ => ?_
  exact h B' d' V' (Lib.hid (hT1.noted ho' hg))
theorem sd_start (w w3 : World) (hb : Below (w.heap.size + 4) (((((w.alloc (.cells #[.slice none 0 0] 23)).alloc (.cells #[.pointer (some ⟨w.heap.size, 0, none⟩)] 57)).alloc (.cells #[.pointer none] 84)).alloc (.cells #[.pointer none, .slice none 0 0] 87))) w3) (hm : BM w3 (w.heap.size + 4) 13 comF) :
    Sd w w3 w.heap.size none 0 [] none 0 [] := by
  have s1 : (w.alloc (.cells #[.slice none 0 0] 23)).heap.size = w.heap.size + 1 := by simp
  have s2 : ((w.alloc (.cells #[.slice none 0 0] 23)).alloc (.cells #[.pointer (some ⟨w.heap.size, 0, none⟩)] 57)).heap.size = w.heap.size + 2 := by simp
  have s3 : (((w.alloc (.cells #[.slice none 0 0] 23)).alloc (.cells #[.pointer (some ⟨w.heap.size, 0, none⟩)] 57)).alloc (.cells #[.pointer none] 84)).heap.size = w.heap.size + 3 := by simp
  have n0 := heap_alloc_new w (.cells #[.slice none 0 0] 23)
  have n1 := heap_alloc_new (w.alloc (.cells #[.slice none 0 0] 23)) (.cells #[.pointer (some ⟨w.heap.size, 0, none⟩)] 57)
  have n2 := heap_alloc_new ((w.alloc (.cells #[.slice none 0 0] 23)).alloc (.cells #[.pointer (some ⟨w.heap.size, 0, none⟩)] 57)) (.cells #[.pointer none] 84)
  have n3 := heap_alloc_new (((w.alloc (.cells #[.slice none 0 0] 23)).alloc (.cells #[.pointer (some ⟨w.heap.size, 0, none⟩)] 57)).alloc (.cells #[.pointer none] 84)) (.cells #[.pointer none, .slice none 0 0] 87)
  rw [s1] at n1
  rw [s2] at n2
  rw [s3] at n3
  have b0 := one_below w (.cells #[.slice none 0 0] 23)
  have b1 := one_below (w.alloc (.cells #[.slice none 0 0] 23)) (.cells #[.pointer (some ⟨w.heap.size, 0, none⟩)] 57)
  have b2 := one_below ((w.alloc (.cells #[.slice none 0 0] 23)).alloc (.cells #[.pointer (some ⟨w.heap.size, 0, none⟩)] 57)) (.cells #[.pointer none] 84)
  have b3 := one_below (((w.alloc (.cells #[.slice none 0 0] 23)).alloc (.cells #[.pointer (some ⟨w.heap.size, 0, none⟩)] 57)).alloc (.cells #[.pointer none] 84)) (.cells #[.pointer none, .slice none 0 0] 87)
  have s4 : ((((w.alloc (.cells #[.slice none 0 0] 23)).alloc (.cells #[.pointer (some ⟨w.heap.size, 0, none⟩)] 57)).alloc (.cells #[.pointer none] 84)).alloc (.cells #[.pointer none, .slice none 0 0] 87)).heap.size = w.heap.size + 4 := by simp
  rw [← s4] at hb
  have h0 := blk_below hb (blk_below b3 (blk_below b2 (blk_below b1 n0)))
  have h1 := blk_below hb (blk_below b3 (blk_below b2 n1))
  have h2 := blk_below hb (blk_below b3 n2)
  have h3 := blk_below hb n3
  exact ⟨⟨h0, h1, h2, hm, own_nil 49 w3 _, own_nil 64 w3 _, bch b0 (bch b1 (bch b2 (bch b3 hb)))⟩, [], .inl ⟨by omega, .slice none 0 0, h3, World.ownsRowF_nil _ _ _ _, by simp [Value.ownBlock]⟩, fun e => by cases e⟩
end Go.Proofs.YtckldeabbkdbjaaDoor
