/- Contracts and plain facts that the law stands on: Ln, Al, Srt0, Rr0, Lb. -/
import Derived.Test.YtjldpkhfiffinaaGreatDoorZA09
import Derived.Test.YtjldpkhfiffinaaGreatDoorZA02
import Derived.Test.YtjldpkhfiffinaaGreatDoorZA15
import Derived.Test.YtjldpkhfiffinaaGreatDoorZA11
import Derived.Test.YtjldpkhfiffinaaGreatDoorZA08
import Derived.Test.YtjldpkhfiffinaaGreatDoorZA06
import Derived.Shelf.GgSortFunc.InsertionK
namespace Go.Proofs.YtjldpkhfiffinaaGreatDoor.U
open Go.RowKit Go.Shelf
/-- Each instance, from the left, replaced. -/
def repF (old new : List UInt8) : Nat → List UInt8 → List UInt8
  | 0, l => l
  | _ + 1, [] => []
  | f + 1, c :: t => if begL old (c :: t) = true then new ++ repF old new f ((c :: t).drop old.length) else c :: repF old new f t
theorem index_cons (old : List UInt8) (c : UInt8) (t : List UInt8) (h : begL old (c :: t) = false) : Lib.index (c :: t) old = if Lib.index t old == -1 then -1 else Lib.index t old + 1 := by
  simp only [Lib.index]
  rw [if_neg (show ¬ old.isPrefixOf (c :: t) = true by unfold begL at h; rw [h]; simp)]
theorem index_zero (old : List UInt8) (l : List UInt8) (h : begL old l = true) (hne : l ≠ []) : Lib.index l old = 0 := by
  cases l with
  | nil => exact absurd rfl hne
  | cons c t =>
    simp only [Lib.index]
    rw [if_pos (show old.isPrefixOf (c :: t) = true from h)]
theorem rep_eq (old new : List UInt8) (h1 : old ≠ []) : ∀ (f : Nat) (l : List UInt8), l.length ≤ f → Lib.replaceK old new (Lib.count l old) l = repF old new f l := by
  intro f
  induction f with
  | zero =>
    intro l hl
    obtain rfl : l = [] := List.eq_nil_of_length_eq_zero (by omega)
    have hi : Lib.index [] old = -1 := by cases old with | nil => exact absurd rfl h1 | cons a t => rfl
    rw [Lib.count_miss hi]
    rfl
  | succ f ih =>
    intro l hl
    have hlen : 1 ≤ old.length := by cases old with | nil => exact absurd rfl h1 | cons a t => simp
    cases l with
    | nil =>
      have hi : Lib.index [] old = -1 := by cases old with | nil => exact absurd rfl h1 | cons a t => rfl
      rw [Lib.count_miss hi]
      rfl
    | cons c t =>
      cases hb : begL old (c :: t) with
      | true =>
        have hi : Lib.index (c :: t) old = ((0 : Nat) : Int) := index_zero old _ hb (by simp)
        rw [Lib.count_hit h1 hi, Nat.zero_add, show 1 + Lib.count ((c :: t).drop old.length) old = Lib.count ((c :: t).drop old.length) old + 1 by omega, Lib.replaceK_hit _ _ _ _ 0 hi]
        simp only [repF]
        rw [if_pos hb, Nat.zero_add, List.take_zero, List.nil_append, ih _ (by rw [List.length_drop]; simp only [List.length_cons] at hl ⊢; omega)]
      | false =>
        have hi := index_cons old c t hb
        simp only [repF]
        rw [if_neg (by rw [hb]; simp), ← ih t (by simpa using hl)]
        have hge := Lib.index_ge t old
        by_cases hm : Lib.index t old = -1
        · rw [hm] at hi
          rw [Lib.count_miss (show Lib.index (c :: t) old = -1 from hi), Lib.count_miss hm]
          rfl
        · obtain ⟨i, hti⟩ : ∃ i : Nat, Lib.index t old = i := ⟨(Lib.index t old).toNat, by omega⟩
          have hi2 : Lib.index (c :: t) old = ((i + 1 : Nat) : Int) := by
            rw [hi, hti, if_neg (by simp)]
            rfl
          rw [Lib.count_hit h1 hi2, Lib.count_hit h1 hti]
          rw [show i + 1 + old.length = (i + old.length) + 1 by omega, List.drop_succ_cons]
          rw [show 1 + Lib.count (t.drop (i + old.length)) old = Lib.count (t.drop (i + old.length)) old + 1 by omega]
          rw [Lib.replaceK_hit _ _ _ _ (i + 1) hi2, Lib.replaceK_hit _ _ _ _ i hti]
          rw [show i + 1 + old.length = (i + old.length) + 1 by omega, List.drop_succ_cons]
          rfl
theorem replaceAll_rep {old new : List UInt8} (h1 : old ≠ []) (hne : old ≠ new) (l : List UInt8) : Lib.replaceAll l old new = repF old new l.length l := by
  unfold Lib.replaceAll Lib.replace Lib.replaceNum
  rw [if_neg (by simpa using hne), if_pos (.inl (by omega))]
  exact rep_eq old new h1 _ _ (Nat.le_refl _)
theorem rep_len (old new : List UInt8) (hl : new.length ≤ old.length) : ∀ (f : Nat) (l : List UInt8), (repF old new f l).length ≤ l.length := by
  intro f
  induction f with
  | zero => intro l; exact Nat.le_refl _
  | succ f ih =>
    intro l
    cases l with
    | nil => exact Nat.le_refl _
    | cons c t =>
      simp only [repF]
      split
      · rename_i hb
        have h2 := begL_len hb
        have h3 := ih ((c :: t).drop old.length)
        rw [List.length_drop] at h3
        rw [List.length_append]
        omega
      · simp only [List.length_cons]
        have := ih t
        omega
theorem rep_fuel (old new : List UInt8) (h1 : 1 ≤ old.length) : ∀ (f g : Nat) (l : List UInt8), l.length ≤ f → l.length ≤ g → repF old new f l = repF old new g l := by
  intro f
  induction f with
  | zero =>
    intro g l hf _
    obtain rfl : l = [] := List.eq_nil_of_length_eq_zero (by omega)
    cases g <;> rfl
  | succ f ih =>
    intro g l hf hg
    cases l with
    | nil => cases g <;> rfl
    | cons c t =>
      cases g with
      | zero => simp at hg
      | succ g =>
        simp only [repF]
        split
        · rw [ih g _ (by rw [List.length_drop]; simp only [List.length_cons] at hf ⊢; omega) (by rw [List.length_drop]; simp only [List.length_cons] at hg ⊢; omega)]
        · rw [ih g _ (by simpa using hf) (by simpa using hg)]
theorem lines_rep : ∀ (f g : Nat) (l : List UInt8), l.length ≤ f → l.length ≤ g → repF [13] [10] g (repF [13, 10] [10] f l) = linesL l := by
  intro f
  induction f with
  | zero =>
    intro g l hf _
    obtain rfl : l = [] := List.eq_nil_of_length_eq_zero (by omega)
    cases g <;> rfl
  | succ f ih =>
    intro g l hf hg
    cases l with
    | nil => cases g <;> rfl
    | cons c t =>
      cases g with
      | zero => simp at hg
      | succ g =>
        simp only [List.length_cons] at hf hg
        by_cases hb : begL [13, 10] (c :: t) = true
        · obtain ⟨r, hr⟩ := begL_iff.1 hb
          simp only [List.cons_append, List.nil_append, List.cons.injEq] at hr
          obtain ⟨rfl, rfl⟩ := hr
          simp only [repF]
          rw [if_pos hb]
          simp only [List.singleton_append, List.length_cons, List.length_nil, List.drop_succ_cons, List.drop_zero]
          rw [show repF [13] [10] (g + 1) (10 :: repF [13, 10] [10] f r) = 10 :: repF [13] [10] g (repF [13, 10] [10] f r) from rfl]
          rw [ih g r (by simp at hf; omega) (by simp at hg; omega)]
          simp [linesL]
        · simp only [repF]
          rw [if_neg hb]
          simp only [repF]
          by_cases hc : c = 13
          · subst hc
            have hh : t.head? ≠ some 10 := by
              intro e
              cases t with
              | nil => cases e
              | cons a r => simp at e; subst e; exact hb rfl
            rw [if_pos (show begL [13] (13 :: repF [13, 10] [10] f t) = true from rfl)]
            simp only [List.singleton_append, List.length_cons, List.length_nil, List.drop_succ_cons, List.drop_zero, linesL]
            rw [if_pos trivial, if_neg hh, ih g t (by omega) (by omega)]
          · rw [if_neg (by rw [begL_cons]; simp [Ne.symm hc])]
            simp only [linesL]
            rw [if_neg hc, ih g t (by omega) (by omega)]
theorem lines_both_ways (l : List UInt8) : Lib.replaceAll (Lib.replaceAll l [13, 10] [10]) [13] [10] = linesL l := by
  rw [replaceAll_rep (by simp) (by simp), replaceAll_rep (by simp) (by simp)]
  rw [rep_fuel [13] [10] (by simp) _ l.length _ (Nat.le_refl _) (rep_len _ _ (by simp) _ _)]
  exact lines_rep _ _ _ (Nat.le_refl _) (Nat.le_refl _)
set_option maxHeartbeats 1000000 in
theorem tlines_any (s : ByteArray) (w : World) (hm : LayT w) (hs : s.size ≤ 1000000) :
    Calls Tryz.prog 56 #[.string s] w fun e w' => e = .returned (.string ⟨(linesL (bts s)).toArray⟩) ∧ Below w.heap.size w w' := by
  have h1 : (Lib.replaceAll (bts s) [13, 10] [10]).length ≤ s.size := by
    rw [replaceAll_rep (by simp) (by simp), ← bts_len]
    exact rep_len _ _ (by simp) _ _
  obtain ⟨m, hmx⟩ := hm.mx
  have HC1 : Hid (Calls Tryz.prog 101 #[.string s, .string ⟨#[13, 10]⟩, .string ⟨#[10]⟩] w fun e w' => e = .returned (.string ⟨(Lib.replaceAll (bts s) [13, 10] [10]).toArray⟩) ∧ Below w.heap.size w w') := Lib.hid (S.strings_ReplaceAll s ⟨#[13, 10]⟩ ⟨#[10]⟩ m w (by omega) hmx (by decide) (by
    have := Lib.count_le s.data.toList [13, 10]
    have h2 : s.data.toList.length = s.size := bts_len s
    show s.size + Lib.count s.data.toList [13, 10] * 1 ≤ _
    omega))
  obtain ⟨y, hy⟩ : ∃ y : ByteArray, y = ⟨(Lib.replaceAll (bts s) [13, 10] [10]).toArray⟩ := ⟨_, rfl⟩
  have hby : bts y = Lib.replaceAll (bts s) [13, 10] [10] := by rw [hy, bts_mk]
  have hys : y.size ≤ s.size := by rw [← bts_len, hby]; exact h1
  have HC2 : Hid (∀ W, LayT W → Calls Tryz.prog 101 #[.string y, .string ⟨#[13]⟩, .string ⟨#[10]⟩] W fun e w' => e = .returned (.string ⟨(linesL (bts s)).toArray⟩) ∧ Below W.heap.size W w') := Lib.hid (fun W k => by
    obtain ⟨m', hm'⟩ := k.mx
    have := S.strings_ReplaceAll y ⟨#[13]⟩ ⟨#[10]⟩ m' W (by omega) hm' (by decide) (by
      have := Lib.count_le y.data.toList [13]
      have h2 : y.data.toList.length = y.size := bts_len y
      show y.size + Lib.count y.data.toList [13] * 1 ≤ _
      omega)
    have e : Lib.replaceAll y.data.toList [13] [10] = linesL (bts s) := by
      show Lib.replaceAll (bts y) [13] [10] = _
      rw [hby, lines_both_ways]
    refine this.mono ?_
    rintro r w' ⟨h3, h4⟩
    refine ⟨?_, h4⟩
    rw [h3]
    show Ending.returned (.string ⟨(Lib.replaceAll y.data.toList [13] [10]).toArray⟩) = _
    rw [e])
  rw [← hy] at HC1
  have HM := Lib.hid hm
  clear hy hby hys h1 hmx hm
  go_enter Tryz.func56, Tryz.ntmps56
  go_wp2_with fail
  refine HC1.out.mono ?_
  rintro e w2 ⟨rfl, hb2⟩
  have HB2 := Lib.hid hb2
  have HM2 := Lib.hid (HM.out.below hb2 HM.out.size)
  clear hb2
  go_wp2_with fail
  refine (HC2.out _ HM2.out).mono ?_
  rintro e w3 ⟨rfl, hb3⟩
  have HB3 := Lib.hid (th HB2.out (Nat.le_refl _) hb3)
  clear hb3
  go_wp2
  go_ret
  exact ⟨rfl, HB3.out⟩
end Go.Proofs.YtjldpkhfiffinaaGreatDoor.U

namespace Go.Proofs.YtjldpkhfiffinaaGreatDoor.U
open Go.RowKit Go.Shelf
theorem spiece_any (b k mb : Nat) (doc : ByteArray) (w : World) (hm : LayT w) (hbt : 6 ≤ b) (h : BoxS b doc k (.slice (some ⟨mb, 0, none⟩) 5 5) w) (hmk : MarksAt mb w) (hs : doc.size ≤ 100000) (hk : k ≤ doc.size) (hw : Whole ((bts doc).drop k)) :
    Calls Tryz.prog 59 #[.pointer (some ⟨b, 0, none⟩)] w fun e w' => ReadP b k doc (.slice (some ⟨mb, 0, none⟩) 5 5) (pieceL (k == 0) ((bts doc).drop k)) w e w' := by
  cases h0 : begL sXml ((bts doc).drop k) with
  | true => exact spiece_x b k mb doc w hm hbt h hmk hs hk hw h0
  | false =>
    cases h1 : begL sCom ((bts doc).drop k) with
    | true => exact spiece_c b k mb doc w hm hbt h hmk hs hk hw h0 h1
    | false =>
      cases h2 : begL sCd ((bts doc).drop k) with
      | true => exact spiece_d b k mb doc w hm hbt h hmk hs hk hw h0 h1 h2
      | false =>
        cases h3 : begL [60, 47] ((bts doc).drop k) with
        | true => exact spiece_l b k mb doc w hm hbt h hmk hs hk hw h0 h1 h2 h3
        | false =>
          cases h4 : begL [60] ((bts doc).drop k) with
          | true => exact spiece_o b k mb doc w hm hbt h hmk hs hk hw h0 h1 h2 h3 h4
          | false => exact spiece_t b k mb doc w hm hbt h hmk hs hk hw h0 h1 h2 h3 h4
theorem conv_byt {w : World} {a : Option Addr} {len cap : Nat} {l : List UInt8} (h : Byt w a len cap (ints l)) : (convert 22 9 (.slice a len cap)).run Tryz.prog w = .ok (.string ⟨l.toArray⟩) w := by
  have hlen : l.length = len := by rw [← ints_len]; exact h.eqLen
  by_cases h0 : 0 < len
  · obtain ⟨b, off, rfl, hc⟩ := h.cells h0
    subst hlen
    refine run_convert_bytes_back (P := Tryz.prog) w 22 9 5 ⟨b, off, none⟩ cap l Tryz.underlying22 Tryz.underlying5 Tryz.underlying9 (fun j hj => ?_)
    rw [show (⟨b, off, none⟩ : Addr).add j = ⟨b, off + j, none⟩ by unfold Addr.add; split <;> simp_all]
    rw [hc j hj]
    unfold ints
    rw [List.getElem?_map, List.getElem?_eq_getElem hj]
    rfl
  · obtain rfl : len = 0 := by omega
    obtain rfl : l = [] := List.eq_nil_of_length_eq_zero hlen
    cases a with
    | none => exact run_convert_bytes_nil (P := Tryz.prog) w 22 5 Tryz.underlying22 Tryz.underlying5 0 cap 9 Tryz.underlying9
    | some b => exact run_convert_bytes_back (P := Tryz.prog) w 22 9 5 b cap [] Tryz.underlying22 Tryz.underlying5 Tryz.underlying9 (fun j hj => by simp at hj)
/-- A row of pieces of package token that the call owns: each with its attributes' value. -/
def TokRowK (w : World) (base : Nat) (v : Value) (l : List (Tok × Value)) : Prop :=
  w.ownsRow base 119 5 v l.length (tvCells l) ∧ ∀ x ∈ l, w.ownsRow base 82 2 x.2 x.1.attrs.length (attrCells x.1.attrs)
theorem TokRowK.below {w w' : World} {base : Nat} {v : Value} {l : List (Tok × Value)} (h : TokRowK w base v l) (hb : Below w.heap.size w w') : TokRowK w' base v l :=
  ⟨ownBelow h.1 hb, fun x hx => ownBelow (h.2 x hx) hb⟩
theorem own_kept {w w' : World} {base b size n : Nat} {e : TypeId} {v : Value} {xs : List Value} (h : w.ownsRow base e size v n xs) (hg : w.grownBy w' (some b)) (hb : b < base) : w'.ownsRow base e size v n xs :=
  h.kept hg (by
    cases hv : v.ownBlock with
    | none => exact .inl rfl
    | some g => exact .inr (fun e => by have := (h.lt g hv).1; have := Option.some.inj e; omega))
theorem TokRowK.kept {w w' : World} {base b : Nat} {v : Value} {l : List (Tok × Value)} (h : TokRowK w base v l) (hg : w.grownBy w' (some b)) (hb : b < base) : TokRowK w' base v l :=
  ⟨own_kept h.1 hg hb, fun x hx => own_kept (h.2 x hx) hg hb⟩
theorem TokRowK.mono {w : World} {base base' : Nat} {v : Value} {l : List (Tok × Value)} (h : TokRowK w base v l) (hb : base' ≤ base) : TokRowK w base' v l :=
  ⟨own_mono h.1 hb, fun x hx => own_mono (h.2 x hx) hb⟩
theorem TokRowK.more {w w' : World} {base : Nat} {v v' : Value} {l : List (Tok × Value)} {x : Tok × Value} (h : TokRowK w base v l) (hx : w.ownsRow base 82 2 x.2 x.1.attrs.length (attrCells x.1.attrs))
    (h1 : w'.ownsRow base 119 5 v' (l.length + 1) (tvCells l ++ (tokCells x.1 x.2).toList)) (hg : w.grownBy w' v.ownBlock) : TokRowK w' base v' (l ++ [x]) := by
  refine ⟨?_, fun y hy => ?_⟩
  · rw [List.length_append, List.length_singleton, show tvCells (l ++ [x]) = tvCells l ++ (tokCells x.1 x.2).toList by unfold tvCells; rw [List.flatMap_append]; simp]
    exact h1
  · rcases List.mem_append.1 hy with h2 | h2
    · exact (h.2 y h2).kept hg (own_ne (h.2 y h2) h.1 (by decide))
    · obtain rfl := List.mem_singleton.1 h2
      exact hx.kept hg (own_ne hx h.1 (by decide))
theorem infoTK : (Tryz.prog.info? 119).map (fun i => (i.zero, i.size, i.bytes)) = some (some (.agg #[.int .i64 0, .string ⟨#[]⟩, .string ⟨#[]⟩, .slice none 0 0, .bool false]), 5, 72) := by kernel_rfl
/-- What All answers. -/
def allT (l : List UInt8) : Except (Nat × Int) (List Tok) :=
  if 65536 < l.length then .error (0, 17)
  else if chkC (ints l) < l.length then .error (chkC (ints l), 10)
  else match allL3 (linesL l) with
    | .ok ts => .ok ts
    | .error p => .error (p, 12)
def AllPostT (o : Except (Nat × Int) (List Tok)) (w : World) (e : Ending) (w' : World) : Prop :=
  Below w.heap.size w w' ∧ ((∃ a c l, o = .ok (l.map (·.1)) ∧ e = .returned (.tuple #[.slice a l.length c, .int .i64 0, .int .i64 0]) ∧ TokRowK w' w.heap.size (.slice a l.length c) l) ∨
    (∃ (p : Nat) (z : Int), o = .error (p, z) ∧ e = .returned (.tuple #[.slice none 0 0, .int .i64 p, .int .i64 z])))
/-- The attributes of each piece lie in a block of their own. -/
def ApartT (l : List (Tok × Value)) : Prop := l.Pairwise fun x y => x.2.ownBlock = none ∨ x.2.ownBlock ≠ y.2.ownBlock
theorem ApartT.snoc {w w' : World} {b1 b2 n size : Nat} {e : TypeId} {l : List (Tok × Value)} {x : Tok × Value} {xs : List Value} (h : ApartT l) (hl : ∀ y ∈ l, w.ownsRow b1 82 2 y.2 y.1.attrs.length (attrCells y.1.attrs)) (hx : w'.ownsRow b2 e size x.2 n xs) (hb : w.heap.size ≤ b2) : ApartT (l ++ [x]) := by
  unfold ApartT
  rw [List.pairwise_append]
  refine ⟨h, List.pairwise_singleton _ _, fun y hy z hz => ?_⟩
  obtain rfl := List.mem_singleton.1 hz
  cases hv : y.2.ownBlock with
  | none => exact .inl rfl
  | some g =>
    refine .inr (fun e => ?_)
    have h1 := ((hl y hy).lt g hv).2
    have h2 := (hx.lt g e.symm).1
    omega
def AllPostD (o : Except (Nat × Int) (List Tok)) (w : World) (e : Ending) (w' : World) : Prop :=
  Below w.heap.size w w' ∧ ((∃ a c l, o = .ok (l.map (·.1)) ∧ e = .returned (.tuple #[.slice a l.length c, .int .i64 0, .int .i64 0]) ∧ TokRowK w' w.heap.size (.slice a l.length c) l ∧ ApartT l) ∨
    (∃ (p : Nat) (z : Int), o = .error (p, z) ∧ e = .returned (.tuple #[.slice none 0 0, .int .i64 p, .int .i64 z])))
set_option maxHeartbeats 4000000 in
set_option maxRecDepth 20000 in
theorem tall_anyD (a : Option Addr) (len cap : Nat) (l : List UInt8) (w : World) (hm : LayT w) (hz : Byt w a len cap (ints l)) :
    Calls Tryz.prog 30 #[.slice a len cap] w fun e w' => AllPostD (allT l) w e w' := by
  have hlen : l.length = len := by rw [← ints_len]; exact hz.eqLen
  by_cases hbig : 65536 < len
  · have HA : Hid (allT l = .error (0, 17)) := Lib.hid (by unfold allT; rw [if_pos (by omega)])
    have hlim := hz.lim
    clear hlen hz hm
    go_enter Tryz.func30, Tryz.ntmps30
    go_wp2_with fail
    go_step3
    go_wp2
    rw [Exit.noGoto_ret]
    go_ret3
    exact ⟨Below.refl _ _, .inr ⟨0, 17, HA.out, rfl⟩⟩
  · have HCK := Lib.hid (check_any a len cap (ints l) w hm.lay.lay hz)
    have HZ := Lib.hid hz
    have HM := Lib.hid hm
    by_cases hck : chkC (ints l) < l.length
    · have HA : Hid (allT l = .error (chkC (ints l), 10)) := Lib.hid (by unfold allT; rw [if_neg (by omega), if_pos hck])
      have hE : chkE (ints l) = 10 := by unfold chkE; rw [if_pos (by rw [ints_len]; exact hck)]
      rw [hE] at HCK
      clear hlen hz hm hck hE
      go_enter Tryz.func30, Tryz.ntmps30
      go_wp2_with fail
      go_step3
      go_wp2_with fail
      refine HCK.out.mono ?_
      rintro e w2 ⟨rfl, hb⟩
      go_wp2
      rw [Exit.noGoto_ret]
      go_ret3
      exact ⟨hb, .inr ⟨_, 10, HA.out, rfl⟩⟩
    · have hE : chkE (ints l) = 0 := by unfold chkE; rw [if_neg (by rw [ints_len]; exact hck)]
      rw [hE] at HCK
      have hwh : Whole l := (wholeB_iff l).1 (by
        have := chkC_le (ints l)
        rw [ints_len] at this
        simp [wholeB]; omega)
      obtain ⟨doc, hdoc⟩ : ∃ doc : ByteArray, doc = ⟨(linesL l).toArray⟩ := ⟨_, rfl⟩
      have hbd : bts doc = linesL l := by rw [hdoc, bts_mk]
      have hds : doc.size ≤ len := by rw [← bts_len, hbd, ← hlen]; exact lines_len l
      have hds1 : doc.size ≤ 100000 := by omega
      have HTL : Hid (∀ W, LayT W → Calls Tryz.prog 56 #[.string ⟨l.toArray⟩] W fun e w' => e = .returned (.string doc) ∧ Below W.heap.size W w') := Lib.hid (fun W k => by
        have := tlines_any ⟨l.toArray⟩ W k (by rw [← bts_len, bts_mk]; omega)
        rw [bts_mk, ← hdoc] at this
        exact this)
      have HWD : Hid (Whole (bts doc)) := Lib.hid (by rw [hbd]; exact lines_whole hwh)
      have H13 : Hid (∀ c ∈ bts doc, c ≠ 13) := Lib.hid (by rw [hbd]; exact lines_no13 l)
      have HA : Hid (allT l = match allL3 (bts doc) with | .ok ts => .ok ts | .error p => .error (p, 12)) := Lib.hid (by unfold allT; rw [if_neg (by omega), if_neg hck, hbd])
      have hl := bts_len doc
      have HCV : Hid (∀ W, Below w.heap.size w W → (convert 22 9 (.slice a len cap)).run Tryz.prog W = .ok (.string ⟨l.toArray⟩) W) := Lib.hid (fun W hb => conv_byt (HZ.out.below hb (Nat.le_refl _)))
      have HIT := Lib.hid infoTK
      clear hlen hz hm hck hE hwh hdoc hbd hds
      go_enter Tryz.func30, Tryz.ntmps30
      go_wp2_with fail
      go_step3
      go_wp2_with fail
      refine HCK.out.mono ?_
      rintro e w2 ⟨rfl, hb2⟩
      have HB2 := Lib.hid hb2
      have HM2 := Lib.hid (HM.out.below hb2 HM.out.size)
      have hcv := HCV.out w2 hb2
      clear hb2
      go_wp2_with fail
      refine (HTL.out _ HM2.out).mono ?_
      rintro e w3 ⟨rfl, hb3⟩
      have HM3 := Lib.hid (HM2.out.below hb3 HM2.out.size)
      have HB3 := Lib.hid (th HB2.out (Nat.le_refl _) hb3)
      clear hb3 hcv
      go_wp2_with fail
      refine (marks_any _).mono ?_
      rintro e w4 ⟨rfl, hmk4, hb4⟩
      have HM4 := Lib.hid (HM3.out.below hb4 HM3.out.size)
      have HB4 := Lib.hid (th HB3.out (Nat.le_refl _) hb4)
      have HK4 := Lib.hid hmk4
      obtain ⟨mb, hmb⟩ : ∃ mb, mb = w3.heap.size := ⟨_, rfl⟩
      rw [← hmb] at HK4 ⊢
      clear hmk4 hb4 hmb
      go_wp2_with fail
      go_step3
      go_wp2_with fail
      have HMLT : Hid (mb < w4.heap.size) := Lib.hid HK4.out.lt
      have HTB : Hid (6 ≤ w4.heap.size) := Lib.hid (Nat.le_trans HM.out.size HB4.out.size)
      have HGW : Hid (w.heap.size ≤ w4.heap.size) := Lib.hid HB4.out.size
      obtain ⟨w5, hw5⟩ : ∃ w5, w5 = w4.alloc (.cells #[.string doc, .int .i64 0, .slice (some ⟨mb, 0, none⟩) 5 5] 118) := ⟨_, rfl⟩
      have hb45 : Below w4.heap.size w4 w5 := by rw [hw5]; exact (Below.refl _ w4).alloc (Nat.le_refl _) _
      have HX5 : Hid (BoxS w4.heap.size doc 0 (.slice (some ⟨mb, 0, none⟩) 5 5) w5) := Lib.hid (by rw [hw5]; exact heap_alloc_new w4 _)
      have HK5 := Lib.hid (HK4.out.below hb45)
      have HB5 := Lib.hid (th HB4.out (Nat.le_refl _) hb45)
      rw [← hw5]
      clear hw5 hb45
      obtain ⟨b, hbe⟩ : ∃ b, b = w4.heap.size := ⟨_, rfl⟩
      rw [← hbe] at HMLT HTB HGW HX5 ⊢
      clear hbe HM4 HB4 HK4 HM3 HB3 HM2 HB2 HTL HCV HCK
      have HMB : Hid (mb ≠ b) := Lib.hid (by have := HMLT.out; omega)
      go_loopw [7, 8, 9] (fun v e0 e1 wr => ∃ (p f : Nat) (a1 : Option Addr) (c1 : Nat) (l1 : List (Tok × Value)), p ≤ doc.size ∧ doc.size - p ≤ f ∧ v = .slice a1 l1.length c1 ∧ e0 = .int .i64 0 ∧ e1 = .int .i64 0 ∧ l1.length ≤ p ∧ Hid (Whole ((bts doc).drop p)) ∧ Hid (allL3 (bts doc) = allA f p (l1.map (·.1)) ((bts doc).drop p)) ∧ Hid (TokRowK wr (b + 1) (.slice a1 l1.length c1) l1) ∧ Hid (BoxS b doc p (.slice (some ⟨mb, 0, none⟩) 5 5) wr) ∧ Hid (MarksAt mb wr) ∧ Hid (Below w.heap.size w wr) ∧ Hid (ApartT l1)) (fun _ _ _ wr => doc.size - placeOf b wr)
      case atStart => exact ⟨0, doc.size, none, 0, [], by omega, by omega, rfl, rfl, rfl, by simp, HWD, Lib.hid (by unfold allL3; rw [hl]; rfl), Lib.hid ⟨World.ownsRow_nil _ _ _ _, fun x hx => by cases hx⟩, HX5, HK5, HB5, Lib.hid List.Pairwise.nil⟩
      case round =>
        obtain ⟨p, f, a1, c1, l1, hp, hf, rfl, rfl, rfl, hll, HWP, HA1, HT, HX, HK, HB, HAP⟩ := hrel
        have HLT := Lib.hid (HM.out.below HB.out HM.out.size)
        have HMR := Lib.hid (more_any b p doc (.slice (some ⟨mb, 0, none⟩) 5 5) wr HX.out)
        by_cases hlt : p < doc.size
        · rw [decide_eq_true hlt] at HMR
          obtain ⟨f, rfl⟩ : ∃ g, f = g + 1 := ⟨f - 1, by omega⟩
          have hne : (bts doc).drop p ≠ [] := by rw [bts_drop doc p hlt]; simp
          have h13p : ∀ b ∈ (bts doc).drop p, b ≠ 13 := fun b hb => H13.out b (List.mem_of_mem_drop hb)
          have HPC := Lib.hid (fun n => (spiece_any b p mb doc (wr.drewN n) (HLT.out.below (below_drewN (Below.refl _ wr) n) HLT.out.size) HTB.out (HX.out.drewN n) HK.out hds1 hp HWP.out).mono (fun e w' r => ReadP.spell (base := wr.heap.size) r (Nat.le_refl _)))
          have HST := Lib.hid (allA_cons (f := f) (p := p) (acc := l1.map (·.1)) hne)
          cases hpc : pieceL (p == 0) ((bts doc).drop p) with
          | none =>
            have HE : Hid (allT l = .error (p, 12)) := Lib.hid (by rw [HA.out, HA1.out, HST.out, hpc])
            have HC : Hid (∀ n, Calls Tryz.prog 59 #[.pointer (some ⟨b, 0, none⟩)] (wr.drewN n) fun e w' => ∃ ki xx yy aa cc dd em, e = .returned (.tuple #[.agg #[.int .i64 ki, .string xx, .string yy, .slice aa cc dd, .bool em], .bool false]) ∧ Below w.heap.size w w') := Lib.hid (fun n => (HPC.out n).mono (by
              rintro e w' (⟨t, n', a, c, h1, _⟩ | ⟨_, ki, x, y, a, c, d, em, q, hq, h1, h2⟩)
              · rw [hpc] at h1; cases h1
              · exact ⟨ki, x, y, a, c, d, em, h1, Below.grown (below_drewN HB.out n) h2.grown (by show w.heap.size ≤ wr.heap.size; exact HB.out.size) (fun k e => by have := Option.some.inj e; have := HGW.out; omega)⟩))
            clear hne h13p hpc HPC
            obtain ⟨k0, k1, k2, _⟩ := HX.out.at
            go_wp2_with fail
            refine HMR.out.mono ?_
            rintro e w6 ⟨rfl, n, rfl⟩
            obtain ⟨k3, k4, k5, _⟩ := (HX.out.drewN n).at
            go_wp2_with fail
            refine (HC.out n).mono ?_
            rintro e w7 ⟨ki, xx, yy, aa, cc, dd, em, rfl, hb7⟩
            have HB7 := Lib.hid (th hb7 (Nat.le_refl _) ((Below.refl _ w7).alloc (Nat.le_refl _) (.cells #[.int .i64 ki, .string xx, .string yy, .slice aa cc dd, .bool em] 119)))
            clear hb7 k0 k1 k2 k3 k4 k5
            go_wp2_with fail
            rw [Exit.noGoto_ret]
            go_ret3
            exact ⟨HB7.out, .inr ⟨p, 12, HE.out, rfl⟩⟩
          | some y =>
            obtain ⟨t, n⟩ := y
            obtain ⟨_, hn1, hn2, _, hwn⟩ := piece_ok HWP.out h13p hne hpc
            rw [List.length_drop, hl] at hn2
            rw [List.drop_drop] at hwn
            obtain ⟨q, hq⟩ : ∃ q, q = p + n := ⟨_, rfl⟩
            rw [← hq] at hwn
            have HWN := Lib.hid hwn
            have HE : Hid (allL3 (bts doc) = allA f q (l1.map (·.1) ++ [t]) ((bts doc).drop q)) := Lib.hid (by rw [HA1.out, HST.out, hpc]; simp only [List.drop_drop, ← hq])
            have HC : Hid (∀ m, Calls Tryz.prog 59 #[.pointer (some ⟨b, 0, none⟩)] (wr.drewN m) fun e w' => ∃ va vc, e = .returned (.tuple #[.agg #[.int .i64 t.kind, .string ⟨t.name.toArray⟩, .string ⟨t.text.toArray⟩, .slice va t.attrs.length vc, .bool t.empty], .bool true]) ∧ Moves b doc (.slice (some ⟨mb, 0, none⟩) 5 5) q (wr.drewN m) w' ∧ w'.ownsRow wr.heap.size 82 2 (.slice va t.attrs.length vc) t.attrs.length (attrCells t.attrs)) := Lib.hid (fun m => (HPC.out m).mono (by
              rintro e w' (⟨t', n', a, c, h1, h2, h3, h4⟩ | ⟨h1, _⟩)
              · rw [hpc] at h1
                obtain ⟨rfl, rfl⟩ := Prod.mk.inj (Option.some.inj h1)
                rw [← hq] at h3
                exact ⟨a, c, h2, h3, h4⟩
              · rw [hpc] at h1; cases h1))
            have hqs : q ≤ doc.size := by omega
            have hpq : p < q := by omega
            clear hne h13p hpc hwn hn1 hn2 hq HPC
            obtain ⟨k0, k1, k2, _⟩ := HX.out.at
            go_wp2_with fail
            refine HMR.out.mono ?_
            rintro e w6 ⟨rfl, m, rfl⟩
            obtain ⟨k3, k4, k5, _⟩ := (HX.out.drewN m).at
            go_wp2_with fail
            refine (HC.out m).mono ?_
            rintro e w2 ⟨va, vc, rfl, hmv, hrow⟩
            have hkb : Below w2.heap.size w2 (w2.alloc (.cells #[.int .i64 t.kind, .string ⟨t.name.toArray⟩, .string ⟨t.text.toArray⟩, .slice va t.attrs.length vc, .bool t.empty] 119)) := (Below.refl _ w2).alloc (Nat.le_refl _) _
            have HT2 := Lib.hid ((HT.out.kept (w := wr.drewN m) hmv.grown (Nat.lt_succ_self _)).below hkb)
            have HX2 := Lib.hid (hmv.box.below hkb)
            have HK2 := Lib.hid ((MarksAt.kept (w := wr.drewN m) HK.out hmv.grown HMB.out).below hkb)
            have HB2 := Lib.hid (th (Below.grown (below_drewN HB.out m) hmv.grown (by show w.heap.size ≤ wr.heap.size; exact HB.out.size) (fun k e => by have := Option.some.inj e; have := HGW.out; omega)) (Nat.le_refl _) hkb)
            have HAP2 : Hid (ApartT (l1 ++ [(t, .slice va t.attrs.length vc)])) := Lib.hid (HAP.out.snoc HT.out.2 hrow (Nat.le_refl _))
            have HR2 := Lib.hid ((own_mono hrow (Nat.succ_le_of_lt HX.out.lt)).alloc (.cells #[.int .i64 t.kind, .string ⟨t.name.toArray⟩, .string ⟨t.text.toArray⟩, .slice va t.attrs.length vc, .bool t.empty] 119))
            have HBX2 : Hid (BoxK w2.heap.size t.kind ⟨t.name.toArray⟩ ⟨t.text.toArray⟩ (.slice va t.attrs.length vc) t.empty (w2.alloc (.cells #[.int .i64 t.kind, .string ⟨t.name.toArray⟩, .string ⟨t.text.toArray⟩, .slice va t.attrs.length vc, .bool t.empty] 119))) := Lib.hid (BoxK.made _ _ _ _ _ _)
            have HSZ2 : Hid (b < w2.heap.size) := Lib.hid hmv.box.lt
            clear hmv hrow hkb k0 k1 k2 k3 k4 k5
            obtain ⟨e0, e1, e2, e3, e4, _⟩ := HBX2.out.at
            obtain ⟨i0, hi, hz0, hz1, hz2⟩ := info_parts HIT.out
            have HN2 := Lib.hid (cell_five_new (w2.alloc (.cells #[.int .i64 t.kind, .string ⟨t.name.toArray⟩, .string ⟨t.text.toArray⟩, .slice va t.attrs.length vc, .bool t.empty] 119)) (.int .i64 t.kind) (.string ⟨t.name.toArray⟩) (.string ⟨t.text.toArray⟩) (.slice va t.attrs.length vc) (.bool t.empty) 119)
            rw [show (w2.alloc (.cells #[.int .i64 t.kind, .string ⟨t.name.toArray⟩, .string ⟨t.text.toArray⟩, .slice va t.attrs.length vc, .bool t.empty] 119)).heap.size = w2.heap.size + 1 by simp] at HN2
            go_wp2_with (at_builtin; go_loud (refine wpList_append_own _ rfl _ _ 65 rfl (b + 1) 119 i0 (.agg #[.int .i64 0, .string ⟨#[]⟩, .string ⟨#[]⟩, .slice none 0 0, .bool false]) 5 72 Tryz.underlying65 hi hz0 hz1 hz2 rfl (by decide) _ _ _ rfl (HT2.out.1.alloc _) ⟨w2.heap.size + 1, 0, none⟩ 1 1 [.int .i64 t.kind, .string ⟨t.name.toArray⟩, .string ⟨t.text.toArray⟩, .slice va t.attrs.length vc, .bool t.empty] rfl rfl HN2.out (by simp [Value.oneCell']) (by unfold maxLen; omega) (by omega) (by have := HSZ2.out; simp; omega) ?_); intro v5 w9 hown5 hgrow5 _)
            obtain ⟨a5, c5, rfl⟩ := own_slice hown5
            have hk3 : Below (w2.alloc (.cells #[.int .i64 t.kind, .string ⟨t.name.toArray⟩, .string ⟨t.text.toArray⟩, .slice va t.attrs.length vc, .bool t.empty] 119)).heap.size (w2.alloc (.cells #[.int .i64 t.kind, .string ⟨t.name.toArray⟩, .string ⟨t.text.toArray⟩, .slice va t.attrs.length vc, .bool t.empty] 119)) ((w2.alloc (.cells #[.int .i64 t.kind, .string ⟨t.name.toArray⟩, .string ⟨t.text.toArray⟩, .slice va t.attrs.length vc, .bool t.empty] 119)).alloc (.cells #[.int .i64 t.kind, .string ⟨t.name.toArray⟩, .string ⟨t.text.toArray⟩, .slice va t.attrs.length vc, .bool t.empty] 119)) := (Below.refl _ _).alloc (Nat.le_refl _) _
            have HX9 := Lib.hid (HX2.out.below hk3)
            have HK9 := Lib.hid (HK2.out.below hk3)
            have HNB : ∀ g, some g = Value.ownBlock (.slice a1 l1.length c1) → b + 1 ≤ g := fun g e => (HT2.out.1.lt g e.symm).1
            have HXZ : Hid (BoxS b doc q (.slice (some ⟨mb, 0, none⟩) 5 5) w9) := Lib.hid ((hgrow5.block b HX9.out.lt (fun e => by have := HNB b e; omega)).trans HX9.out)
            have HKZ : Hid (MarksAt mb w9) := Lib.hid ((hgrow5.block mb HK9.out.lt (fun e => by have := HNB mb e; have := HMLT.out; omega)).trans HK9.out)
            refine ⟨⟨q, f, a5, c5, l1 ++ [(t, .slice va t.attrs.length vc)], hqs, by omega, by simp, rfl, rfl, by simp; omega, HWN, Lib.hid (by rw [HE.out, List.map_append]; rfl), ?_, HXZ, HKZ, ?_, HAP2⟩, by rw [placeOf_box HXZ.out, placeOf_box HX.out]; omega⟩
            · exact Lib.hid (by
                rw [List.length_append, List.length_singleton]
                exact (HT2.out.below hk3).more (HR2.out.alloc _) hown5 hgrow5)
            · exact Lib.hid (Below.grown (HB2.out.trans (hk3.mono (by have := HB2.out.size; omega))) hgrow5 (by have := HB2.out.size; simp at this ⊢; omega) (fun k e => by have := HNB k e.symm; have := HGW.out; omega))
        · rw [decide_eq_false hlt] at HMR
          obtain rfl : p = doc.size := by omega
          have HE : Hid (allT l = .ok (l1.map (·.1))) := Lib.hid (by
            rw [HA.out, HA1.out, List.drop_of_length_le (by omega)]
            cases f <;> rfl)
          obtain ⟨k0, k1, k2, _⟩ := HX.out.at
          go_wp2_with fail
          refine HMR.out.mono ?_
          rintro e w6 ⟨rfl, n, rfl⟩
          go_wp2
          rw [Exit.noGoto_ret]
          go_ret3
          exact ⟨below_drewN HB.out n, .inl ⟨a1, c1, l1, HE.out, rfl, HT.out.mono (by have := HGW.out; omega), HAP.out⟩⟩
end Go.Proofs.YtjldpkhfiffinaaGreatDoor.U

namespace Go.Proofs.YtjldpkhfiffinaaGreatDoor.U
open Go.RowKit
/-- No two have one name. -/
def OneName (l : List (List UInt8 × List UInt8)) : Prop := l.Pairwise fun a b => a.1 ≠ b.1
theorem hasA_false {l : List (List UInt8 × List UInt8)} {n : List UInt8} (h : hasA l n = false) : ∀ a ∈ l, a.1 ≠ n := by
  intro a ha e
  unfold hasA at h
  rw [List.any_eq_false] at h
  exact h a ha (by simp [e])
theorem oneName_of : ∀ {l p : List (List UInt8 × List UInt8)}, dupA p l = false → OneName l ∧ ∀ a ∈ p, ∀ b ∈ l, a.1 ≠ b.1 := by
  intro l
  induction l with
  | nil => intro p _; exact ⟨List.Pairwise.nil, fun a _ b hb => by cases hb⟩
  | cons x r ih =>
    intro p h
    unfold dupA at h
    rw [Bool.or_eq_false_iff] at h
    obtain ⟨h1, h2⟩ := ih h.2
    have h3 := hasA_false h.1
    refine ⟨List.Pairwise.cons (fun b hb => h2 x (by simp) b hb) h1, fun a ha b hb => ?_⟩
    rcases List.mem_cons.1 hb with rfl | hb
    · exact h3 a ha
    · exact h2 a (by simp [ha]) b hb
theorem insA_perm (a : List UInt8 × List UInt8) : ∀ l, (insA a l).Perm (a :: l) := by
  intro l
  induction l with
  | nil => exact List.Perm.refl _
  | cons b r ih =>
    unfold insA
    split
    · exact (ih.cons b).trans (List.Perm.swap _ _ _)
    · exact List.Perm.refl _
theorem foldA_perm : ∀ (l acc : List (List UInt8 × List UInt8)), (l.foldl (fun acc a => insA a acc) acc).Perm (acc ++ l) := by
  intro l
  induction l with
  | nil => intro acc; rw [List.append_nil]; exact List.Perm.refl _
  | cons a r ih =>
    intro acc
    rw [List.foldl_cons]
    refine (ih _).trans (((insA_perm a acc).append_right r).trans ?_)
    rw [List.cons_append]
    exact List.perm_middle.symm
theorem sortA_perm (l : List (List UInt8 × List UInt8)) : (sortA l).Perm l := by
  have := foldA_perm l []
  rw [List.nil_append] at this
  exact this
theorem ltB_tri {a b : List UInt8} (h : a ≠ b) (h1 : ltB a b = false) : ltB b a = true := by
  have := ltB_total h1
  rw [Bool.or_eq_true] at this
  rcases this with h2 | h2
  · exact h2
  · exact absurd (beq_iff_eq.1 h2).symm h
def upA (a b : List UInt8 × List UInt8) : Prop := ltB a.1 b.1 = true
theorem insA_up (a : List UInt8 × List UInt8) : ∀ l, List.Pairwise upA l → (∀ b ∈ l, b.1 ≠ a.1) → List.Pairwise upA (insA a l) := by
  intro l
  induction l with
  | nil => intro _ _; exact List.pairwise_singleton _ _
  | cons b r ih =>
    intro h hn
    obtain ⟨h1, h2⟩ := List.pairwise_cons.1 h
    unfold insA
    split
    · next hb =>
      refine List.pairwise_cons.2 ⟨fun c hc => ?_, ih h2 (fun c hc => hn c (by simp [hc]))⟩
      rcases List.mem_cons.1 ((insA_perm a r).subset hc) with rfl | hc
      · exact hb
      · exact h1 c hc
    · next hb =>
      have hab : upA a b := ltB_tri (hn b (by simp)) (by simpa using hb)
      refine List.pairwise_cons.2 ⟨fun c hc => ?_, h⟩
      rcases List.mem_cons.1 hc with rfl | hc
      · exact hab
      · exact ltB_trans hab (h1 c hc)
theorem foldA_up : ∀ (l acc : List (List UInt8 × List UInt8)), List.Pairwise upA acc → OneName l → (∀ a ∈ acc, ∀ b ∈ l, a.1 ≠ b.1) → List.Pairwise upA (l.foldl (fun acc a => insA a acc) acc) := by
  intro l
  induction l with
  | nil => intro acc h _ _; exact h
  | cons a r ih =>
    intro acc h hn hd
    obtain ⟨h1, h2⟩ := List.pairwise_cons.1 hn
    rw [List.foldl_cons]
    refine ih _ (insA_up a acc h (fun b hb => hd b hb a (by simp))) h2 (fun b hb c hc => ?_)
    rcases List.mem_cons.1 ((insA_perm a acc).subset hb) with rfl | hb
    · exact h1 c hc
    · exact hd b hb c (by simp [hc])
theorem sortA_up {l : List (List UInt8 × List UInt8)} (h : OneName l) : List.Pairwise upA (sortA l) := foldA_up l [] List.Pairwise.nil h (fun a ha => by cases ha)
/-- What is sorted, and has the same attributes. -/
theorem sortA_only {l d : List (List UInt8 × List UInt8)} (hn : OneName l) (hp : d.Perm l) (hs : ∀ i j (hj : j < d.length) (hi : i < j), ltB (d[j]'hj).1 (d[i]'(by omega)).1 = false) : d = sortA l := by
  have hnd : OneName d := by
    refine (List.Perm.pairwise_iff (fun h e => h e.symm) hp).2 hn
  have hd : List.Pairwise upA d := by
    rw [List.pairwise_iff_getElem]
    intro i j hi hj hij
    unfold OneName at hnd
    rw [List.pairwise_iff_getElem] at hnd
    exact ltB_tri (fun e => hnd i j hi hj hij e.symm) (hs i j hj hij)
  refine List.Perm.eq_of_pairwise (le := upA) (fun a b _ _ h1 h2 => ?_) hd (sortA_up hn) (hp.trans (sortA_perm l).symm)
  unfold upA at h1 h2
  rw [ltB_asymm h1] at h2
  cases h2
theorem sortA_length (l : List (List UInt8 × List UInt8)) : (sortA l).length = l.length := (sortA_perm l).length_eq
/-- What cmp.Compare says of two texts. -/
def cmpB (a b : List UInt8) : Int := if ltB a b = true then -1 else if ltB b a = true then 1 else 0
theorem cmpB_lt (a b : List UInt8) : decide (cmpB a b < 0) = ltB a b := by
  unfold cmpB
  cases h : ltB a b with
  | true => simp
  | false =>
    cases h2 : ltB b a with
    | true => simp
    | false => simp
/-- An attribute's two cells. -/
def encA (x : List UInt8 × List UInt8) : List Value := [.string ⟨x.1.toArray⟩, .string ⟨x.2.toArray⟩]
open Go.Sort in
theorem flat_attr (l : List (List UInt8 × List UInt8)) : flatK encA 2 l.toArray = (attrCells l).toArray := by
  apply ext_get!
  · rw [size_flatK]; simp [attrCells_len]
  · intro t ht
    rw [size_flatK] at ht
    have ht' : t < l.length * 2 := by simpa using ht
    rw [get_flatK _ _ _ _ ht]
    have hd : t / 2 < l.length := by omega
    obtain ⟨h1, h2⟩ := attrCells_get l (t / 2) hd
    have hl : l.toArray[t / 2]! = l[t / 2] := by
      rw [getElem!_pos _ _ (by simpa using hd)]
      simp
    rw [hl]
    have hg : ∀ v, (attrCells l)[t]? = some v → (attrCells l).toArray[t]! = v := fun v hv => by
      obtain ⟨h5, h6⟩ := List.getElem?_eq_some_iff.1 hv
      rw [getElem!_pos _ _ (by simpa using h5)]
      simpa using h6
    rcases Nat.mod_two_eq_zero_or_one t with hm | hm
    · rw [hm, hg _ (by have := h1; rw [show t / 2 * 2 = t by omega] at this; exact this)]
      rfl
    · rw [hm, hg _ (by have := h2; rw [show t / 2 * 2 + 1 = t by omega] at this; exact this)]
      rfl
open Go.Sort in
/-- The row behind the sort. -/
theorem own_sorted {w : World} {base g cap m : Nat} {l d : List (List UInt8 × List UInt8)} {os : Array Obj} (h : w.ownsRow base 82 2 (.slice (some ⟨g, 0, none⟩) l.length cap) l.length (attrCells l)) (hd : d.length = l.length) :
    (sortWorldK encA 2 w g 0 m d.toArray os).ownsRow base 82 2 (.slice (some ⟨g, 0, none⟩) l.length cap) l.length (attrCells d) ∧ w.grownBy (sortWorldK encA 2 w g 0 m d.toArray os) (some g) := by
  obtain ⟨h0, h⟩ := h
  rcases h with ⟨h, _⟩ | ⟨g', cap', cur, e, h2, h3, h4, h5, h6, h7⟩
  · cases h
  · simp only [Value.slice.injEq, Option.some.injEq, Addr.mk.injEq, and_true, true_and] at e
    obtain ⟨rfl, rfl⟩ := e
    have hgl := (Array.getElem?_eq_some_iff.1 h3).1
    have hh : ∀ k, k < w.heap.size → (sortWorldK encA 2 w g 0 m d.toArray os).heap[k]? = (w.heap.modify g (onCells (putCells id 0 (flatK encA 2 d.toArray))))[k]? := fun k hk => by
      show (w.heap.modify g _ ++ os)[k]? = _
      rw [Array.getElem?_append_left (by simpa using hk)]
    refine ⟨⟨by rw [attrCells_len, hd], .inr ⟨g, cap, putCells id 0 (flatK encA 2 d.toArray) cur, rfl, h2, ?_, h4, h5, ?_, ?_⟩⟩, ⟨rfl, rfl, rfl, ?_, fun k hk hne => ?_⟩⟩
    · rw [hh g hgl, Array.getElem?_modify, if_pos rfl, h3]
      rfl
    · unfold putCells; rw [Array.size_mapIdx]; exact h6
    · rw [flat_attr]
      apply List.ext_getElem?
      intro k
      have hsz : (attrCells d).length = l.length * 2 := by rw [attrCells_len, hd]
      rw [List.getElem?_take]
      split
      · next hk =>
        unfold putCells
        rw [Array.getElem?_toList, Array.getElem?_mapIdx, Array.getElem?_eq_getElem (by rw [h6]; have := Nat.mul_le_mul_right 2 h4; omega), Option.map_some]
        rw [if_pos (by simp; omega)]
        rw [Nat.sub_zero, getElem!_pos _ _ (by simp; omega)]
        first | (simp; done) | (simp; omega)
      · next hk => rw [List.getElem?_eq_none (by omega)]
    · show w.heap.size ≤ (w.heap.modify g _ ++ os).size
      simp
    · rw [hh k hk, Array.getElem?_modify, if_neg (fun e => hne (by rw [e]))]
open Go.Sort in
theorem holds_attr {w : World} {base g cap : Nat} {l : List (List UInt8 × List UInt8)} (h : w.ownsRow base 82 2 (.slice (some ⟨g, 0, none⟩) l.length cap) l.length (attrCells l)) : HoldsK encA 2 w g 0 l.toArray := by
  unfold HoldsK
  rw [flat_attr]
  intro j hj
  have hj' : j < (attrCells l).length := by simpa using hj
  have hc := h.cells rfl j _ (List.getElem?_eq_getElem hj')
  rw [add_zero_at] at hc
  rw [Nat.zero_add]
  refine ⟨by rw [hc]; show _ = some ((attrCells l).toArray[j]!); rw [getElem!_pos (attrCells l).toArray j hj]; simp, ?_⟩
  rcases h.2 with ⟨h9, _⟩ | ⟨g', cap', cur, e, _, h3, _⟩
  · cases h9
  · simp only [Value.slice.injEq, Option.some.injEq, Addr.mk.injEq, and_true, true_and] at e
    obtain ⟨rfl, rfl⟩ := e
    exact Lib.frozen_of_heap h3 j
end Go.Proofs.YtjldpkhfiffinaaGreatDoor.U

namespace Go.Proofs.YtjldpkhfiffinaaGreatDoor.U
open Go.RowKit Go.Shelf
def ixOf : Nat → List (Tok × Value) → Nat → Option Nat
  | _, [], _ => none
  | i, x :: r, b => if x.2.ownBlock = some b then some i else ixOf (i + 1) r b
theorem ixOf_get : ∀ {l : List (Tok × Value)} {i k b : Nat} {x : Tok × Value}, ApartT l → l[k]? = some x → x.2.ownBlock = some b → ixOf i l b = some (i + k) := by
  intro l
  induction l with
  | nil => intro i k b x _ h; simp at h
  | cons y r ih =>
    intro i k b x ha h hb
    unfold ApartT at ha
    obtain ⟨h1, h2⟩ := List.pairwise_cons.1 ha
    unfold ixOf
    cases k with
    | zero =>
      simp only [List.getElem?_cons_zero, Option.some.injEq] at h
      subst h
      rw [if_pos hb]
      rfl
    | succ k =>
      simp only [List.getElem?_cons_succ] at h
      have h3 := h1 x (List.mem_of_getElem? h)
      rw [if_neg (fun e => by rcases h3 with h3 | h3; rw [h3] at e; cases e; exact h3 (e.trans hb.symm))]
      rw [ih h2 h hb]
      congr 1
      omega
/-- The parts ahead of the first piece: the piece's attributes, the reader's own, what lies still. -/
def part0 (l : List (Tok × Value)) (n0 : Nat) : Part := fun b =>
  if b = n0 + 1 then (2, 0) else if b = n0 + 2 then (1, 0) else if b = n0 + 3 then (6, 0)
  else match ixOf 0 l b with
    | some j => (5, j)
    | none => if b ≤ n0 then (7, 0) else (0, 0)
/-- How long texts are. -/
def sumX (ts : List Tok) : Nat := (ts.map (fun t => t.text.length)).sum
theorem sumX_snoc (ts : List Tok) (t : Tok) : sumX (ts ++ [t]) = sumX ts + t.text.length := by unfold sumX; simp
def Small (k B : Nat) (fs : List Fr) : Prop := fs.length ≤ k ∧ ∀ f ∈ fs, f.kids.length ≤ k ∧ ∀ T ∈ f.kids, (trX T).length ≤ B
theorem stepA_small {fs fs' : List Fr} {root root' : Option Tr} {t : Tok} {k B : Nat} (h : Small k B fs) (hs : stepA fs root t = some (fs', root')) : Small (k + 1) (B + t.text.length) fs' := by
  have add : ∀ (T : Tr) (gs : List Fr), trX T = [] → (∀ f ∈ gs, f ∈ fs) → gs.length ≤ k → (addTr T gs root) = (fs', root') → Small (k + 1) (B + t.text.length) fs' := by
    intro T gs hT hg hlen e
    cases gs with
    | nil =>
      simp only [addTr, Prod.mk.injEq] at e
      obtain ⟨rfl, rfl⟩ := e
      exact ⟨by simp, fun f hf => by cases hf⟩
    | cons g q =>
      simp only [addTr, Prod.mk.injEq] at e
      obtain ⟨rfl, rfl⟩ := e
      refine ⟨by simp at hlen ⊢; omega, fun f hf => ?_⟩
      rcases List.mem_cons.1 hf with rfl | hf
      · obtain ⟨h1, h2⟩ := h.2 g (hg g (by simp))
        refine ⟨by simp; omega, fun U hU => ?_⟩
        simp only at hU
        rcases List.mem_append.1 hU with hU | hU
        · have := h2 U hU; omega
        · rw [List.mem_singleton.1 hU, hT]; simp
      · obtain ⟨h1, h2⟩ := h.2 f (hg f (by simp [hf]))
        exact ⟨by omega, fun U hU => by have := h2 U hU; omega⟩
  have more : ∀ f ∈ fs, f.kids.length ≤ k + 1 ∧ ∀ T ∈ f.kids, (trX T).length ≤ B + t.text.length := fun f hf => by
    obtain ⟨h1, h2⟩ := h.2 f hf
    exact ⟨by omega, fun U hU => by have := h2 U hU; omega⟩
  have hl := h.1
  unfold stepA at hs
  split at hs
  · split at hs
    · cases hs
    · split at hs
      · injection hs with hs
        exact add _ fs rfl (fun f hf => hf) hl hs
      · injection hs with hs
        simp only [Prod.mk.injEq] at hs
        obtain ⟨rfl, rfl⟩ := hs
        refine ⟨by simp; omega, fun f hf => ?_⟩
        rcases List.mem_cons.1 hf with rfl | hf
        · exact ⟨by simp, fun T hT => by cases hT⟩
        · exact more f hf
  · split at hs
    · cases fs with
      | nil => cases hs
      | cons f q =>
        simp only at hs
        split at hs
        · cases hs
        · injection hs with hs
          exact add _ q rfl (fun g hg => by simp [hg]) (by simp at hl; omega) hs
    · split at hs
      · cases fs with
        | nil =>
          simp only at hs
          split at hs
          · cases hs
          · injection hs with hs
            simp only [Prod.mk.injEq] at hs
            obtain ⟨rfl, rfl⟩ := hs
            exact ⟨by simp, fun f hf => by cases hf⟩
        | cons f q =>
          simp only at hs
          split at hs
          · injection hs with hs
            simp only [Prod.mk.injEq] at hs
            obtain ⟨rfl, rfl⟩ := hs
            exact ⟨by omega, more⟩
          · injection hs with hs
            simp only [Prod.mk.injEq] at hs
            obtain ⟨rfl, rfl⟩ := hs
            refine ⟨by simp at hl ⊢; omega, fun g hg => ?_⟩
            rcases List.mem_cons.1 hg with rfl | hg
            · obtain ⟨h1, h2⟩ := h.2 f (by simp)
              refine ⟨?_, fun U hU => ?_⟩
              · simp only
                unfold addTx
                split
                · simp; omega
                · simp; omega
              · simp only at hU
                unfold addTx at hU
                split at hU
                · next tx a b hlast =>
                  rcases List.mem_append.1 hU with hU | hU
                  · have := h2 U ((List.dropLast_sublist _).subset hU); omega
                  · rw [List.mem_singleton.1 hU]
                    have := h2 _ (List.mem_of_getLast? hlast)
                    simp only [trX, List.length_append] at this ⊢
                    omega
                · rcases List.mem_append.1 hU with hU | hU
                  · have := h2 U hU; omega
                  · rw [List.mem_singleton.1 hU]; simp [trX]
            · exact more g (by simp [hg])
      · injection hs with hs
        simp only [Prod.mk.injEq] at hs
        obtain ⟨rfl, rfl⟩ := hs
        exact ⟨by omega, more⟩
/-- What a round of read goes by. -/
def RInv (l : List (Tok × Value)) (base : Nat) (a : Option Addr) (c rb : Nat) (w : World) (k : Nat) (fs : List Fr) (root : Option Tr) (ρ : Part) (ps : List Nat) (vs : List (Value × Value)) (g cg : Nat) (wr : World) : Prop :=
  k ≤ l.length ∧ treeL (l.map (·.1)) = treeA k fs root ((l.map (·.1)).drop k) ∧ FsOk fs root ∧ (∀ f ∈ fs, f.lb ≠ []) ∧ Small k (sumX ((l.map (·.1)).take k)) fs ∧ RdV ρ wr base rb (stk fs root) ps vs g cg ∧
    wr.ownsRow base 119 5 (.slice a l.length c) l.length (tvCells l) ∧ (∀ b, (Value.slice a l.length c).ownBlock = some b → ρ b = (7, 0)) ∧
    (∀ j x, k ≤ j → l[j]? = some x → wr.ownsRow base 82 2 x.2 x.1.attrs.length (attrCells x.1.attrs) ∧ ∀ b, x.2.ownBlock = some b → ρ b = (5, j)) ∧ Below base w wr ∧ w.heap.size ≤ wr.heap.size ∧ ρ w.heap.size = (7, 0)
theorem RInv.next {l : List (Tok × Value)} {base : Nat} {a : Option Addr} {c rb : Nat} {w : World} {k : Nat} {fs fs' : List Fr} {root root' : Option Tr} {ρ ρ' : Part} {ps ps' : List Nat} {vs vs' : List (Value × Value)} {g cg g' cg' : Nat} {wr w' : World} {x : Tok × Value} (h : RInv l base a c rb w k fs root ρ ps vs g cg wr) (hx : l[k]? = some x) (hn : x.1.kind = 2 → x.1.name ≠ [])
    (hs : stepA fs root x.1 = some (fs', root')) (hR : RdV ρ' w' base rb (stk fs' root') ps' vs' g' cg') (hf : ∀ b, b < wr.heap.size → Fix k (ρ b) → ρ' b = ρ b ∧ w'.heap[b]? = wr.heap[b]?) (hb : Below base wr w') (h0 : w.heap.size < wr.heap.size) : RInv l base a c rb w (k + 1) fs' root' ρ' ps' vs' g' cg' w' := by
  obtain ⟨h1, h2, h3, h4, h5, h6, h7, h8, h9, h10, h11, h12⟩ := h
  have hk : k < l.length := (List.getElem?_eq_some_iff.1 hx).1
  have hxm : (l.map (·.1))[k]? = some x.1 := by rw [List.getElem?_map, hx]; rfl
  obtain ⟨g1, g2, _⟩ := stepA_ok h3 hn h4 hs
  have hdrop : (l.map (·.1)).drop k = x.1 :: (l.map (·.1)).drop (k + 1) := by
    rw [List.drop_eq_getElem_cons (by simpa using hk)]
    congr 1
    have := List.getElem?_eq_some_iff.1 hxm
    exact this.2
  have htake : (l.map (·.1)).take (k + 1) = (l.map (·.1)).take k ++ [x.1] := by rw [List.take_add_one, hxm]; rfl
  have hsm := stepA_small h5 hs
  refine ⟨by omega, ?_, g1, g2, by rw [htake, sumX_snoc]; exact hsm, hR, ?_, ?_, ?_, h10.trans hb, Nat.le_trans h11 hb.size, ?_⟩
  · rw [h2, hdrop, stepA_tree h3, hs]
  · refine own_heap h7 (fun b hb => (hf b (h7.lt b hb).2 (.inl (h8 b hb))).2)
  · intro b hb
    rw [(hf b (h7.lt b hb).2 (.inl (h8 b hb))).1]
    exact h8 b hb
  · intro j y hj hy
    obtain ⟨k1, k2⟩ := h9 j y (by omega) hy
    have hfix : ∀ b, y.2.ownBlock = some b → Fix k (ρ b) := fun b hb => .inr (by rw [k2 b hb]; exact ⟨rfl, by simp; omega⟩)
    exact ⟨own_heap k1 (fun b hb => (hf b (k1.lt b hb).2 (hfix b hb)).2), fun b hb => by rw [(hf b (k1.lt b hb).2 (hfix b hb)).1]; exact k2 b hb⟩
  · rw [(hf _ h0 (.inl h12)).1]; exact h12
theorem RInv.start {l : List (Tok × Value)} {base : Nat} {a : Option Addr} {c : Nat} {w W : World} (h : TokRowK w base (.slice a l.length c) l) (hap : ApartT l) (hb0 : base ≤ w.heap.size) (hW : Below w.heap.size w W)
    (hp : Box4 (w.heap.size + 1) ⟨#[]⟩ ⟨#[]⟩ (.slice none 0 0) (.slice none 0 0) W) (hg : W.heap[w.heap.size + 2]? = some (.cells #[.pointer (some ⟨w.heap.size + 1, 0, none⟩)] 122 (0, 0))) (hr : W.heap[w.heap.size + 3]? = some (.cells #[.slice (some ⟨w.heap.size + 2, 0, none⟩) 1 1] 125 (0, 0))) :
    RInv l base a c (w.heap.size + 3) w 0 [] none (part0 l w.heap.size) [w.heap.size + 1] [(.slice none 0 0, .slice none 0 0)] (w.heap.size + 2) 1 W := by
  have hlow : ∀ b, b ≤ w.heap.size → ixOf 0 l b = none → part0 l w.heap.size b = (7, 0) := fun b hb hi => by
    unfold part0
    rw [if_neg (by omega), if_neg (by omega), if_neg (by omega), hi]
    simp only
    rw [if_pos hb]
  have hno : ∀ (l : List (Tok × Value)) (i b : Nat), (∀ x ∈ l, x.2.ownBlock ≠ some b) → ixOf i l b = none := by
    intro l
    induction l with
    | nil => intro i b _; rfl
    | cons y r ih =>
      intro i b hy
      unfold ixOf
      rw [if_neg (hy y (by simp))]
      exact ih (i + 1) b (fun x hx => hy x (by simp [hx]))
  refine ⟨Nat.zero_le _, rfl, ⟨fun h => absurd rfl h, fun f hf => by cases hf⟩, fun f hf => (by cases hf), ⟨by simp, fun f hf => by cases hf⟩, ⟨hr, by omega, by unfold part0; simp, ?_, by unfold part0; simp, ?_⟩, own_bel h.1 hW, ?_, ?_, hW.mono hb0, hW.size, ?_⟩
  · refine ⟨_, hg, by omega, by simp [stk], by simp, by unfold maxLen; decide, by simp [stk, ptrCells], by simp [stk, ptrCells, ptrV], .inr (by simp)⟩
  · show OpenP _ _ _ [.node [] [] [] []] _ _
    rw [OpenP]
    refine ⟨_, _, _, [], [], [], rfl, rfl, hp, by omega, by unfold part0; simp, World.ownsRow_nil _ _ _ _, fun b hb => by simp [Value.ownBlock] at hb, World.ownsRow_nil _ _ _ _, fun b hb => by simp [Value.ownBlock] at hb, by rw [show trK (.node [] [] [] []) = [] from rfl, KidsS], by rw [OpenP]; exact ⟨rfl, rfl⟩⟩
  · intro b hb
    have hbl := (h.1.lt b hb).2
    refine hlow b (by omega) (hno l 0 b (fun x hx e => ?_))
    have := own_ne (h.2 x hx) h.1 (by decide)
    rcases this with h9 | h9
    · rw [h9] at e; cases e
    · exact h9 (e.trans hb.symm)
  · intro j x _ hx
    refine ⟨own_bel (h.2 x (List.mem_of_getElem? hx)) hW, fun b hb => ?_⟩
    have hbl := ((h.2 x (List.mem_of_getElem? hx)).lt b hb).2
    unfold part0
    rw [if_neg (by omega), if_neg (by omega), if_neg (by omega), ixOf_get hap hx hb]
    simp
  · refine hlow _ (Nat.le_refl _) (hno l 0 _ (fun x hx e => ?_))
    have := ((h.2 x hx).lt _ e).2
    omega
/-- The only child, in memory. -/
theorem RdV.only {ρ : Part} {w : World} {base rb g c : Nat} {T : Tr} {ps : List Nat} {vs : List (Value × Value)} (h : RdV ρ w base rb (stk [] (some T)) ps vs g c) :
    ∃ p b cc va2 vk2, ps = [p] ∧ w.cell? ⟨p, 3, none⟩ = some (.slice (some ⟨b, 0, none⟩) 1 cc) ∧ TreeS (fun g => base ≤ g ∧ ρ g = (0, 0)) w T [.string ⟨(trL T).toArray⟩, .string ⟨(trX T).toArray⟩, va2, vk2] ∧ w.cell? ⟨b, 0, none⟩ = some (.string ⟨(trL T).toArray⟩) ∧ w.cell? ⟨b, 1, none⟩ = some (.string ⟨(trX T).toArray⟩) ∧ w.cell? ⟨b, 2, none⟩ = some va2 ∧ w.cell? ⟨b, 3, none⟩ = some vk2 := by
  obtain ⟨_, _, _, _, _, h6⟩ := h
  have e : stk [] (some T) = [.node [] [] [] [T]] := rfl
  rw [e, OpenP] at h6
  obtain ⟨p, va, vk, qs, q, lk, e1, e2, k1, k2, k3, k4, k5, k6, k7, k8, k9⟩ := h6
  rw [OpenP] at k9
  obtain ⟨rfl, rfl⟩ := k9
  have k8' : KidsS (fun g => base ≤ g ∧ ρ g = (0, 0)) w ([] ++ [T]) lk := k8
  obtain ⟨lq, hs, rfl, l1, l2, l3⟩ := k8'.split
  have hlq : lq = [] := by rw [KidsS] at l1; exact l1
  subst hlq
  obtain ⟨lb, tx, al, js⟩ := T
  have l2' := l2
  rw [TreeS.eq] at l2
  obtain ⟨va2, vk2, rfl, l4, l5⟩ := l2
  have k6' : w.ownsRow base 27 4 vk 1 [.string ⟨lb.toArray⟩, .string ⟨tx.toArray⟩, va2, vk2] := k6
  obtain ⟨b, cc, rfl, hb1, _⟩ := k6'.form (by simp)
  have hc := k6'.cells rfl
  have lcell : ∀ i v, ([.string ⟨lb.toArray⟩, .string ⟨tx.toArray⟩, va2, vk2] : List Value)[i]? = some v → w.cell? ⟨b, i, none⟩ = some v := fun i v hi => by
    have h9 := hc i v hi
    rw [add_zero_at] at h9
    exact h9
  exact ⟨p, b, cc, va2, vk2, e1, k1.at.2.2.2, l2', lcell 0 _ rfl, lcell 1 _ rfl, lcell 2 _ rfl, lcell 3 _ rfl⟩
end Go.Proofs.YtjldpkhfiffinaaGreatDoor.U

namespace Go.Proofs.YtjldpkhfiffinaaGreatDoor.U
open Go.RowKit Go.Shelf
theorem piece_kind {f : Bool} {l : List UInt8} {t : Tok} {n : Nat} (h : pieceL f l = some (t, n)) : t.kind = 2 ∨ t.attrs = [] := by
  unfold pieceL at h
  split at h
  · unfold decL at h
    split at h
    · cases h; exact .inr rfl
    · split at h
      · cases h; exact .inr rfl
      · cases h
  · split at h
    · unfold comL at h
      split at h
      · cases h
      · split at h
        · cases h; exact .inr rfl
        · cases h
    · split at h
      · unfold cdL at h
        split at h
        · cases h
        · cases h; exact .inr rfl
      · split at h
        · unfold closeL at h
          simp only at h
          split at h
          · split at h
            · cases h; exact .inr rfl
            · cases h
          · cases h
        · split at h
          · unfold openL at h
            simp only at h
            split at h
            · split at h
              · cases h
              · cases h; exact .inl rfl
            · cases h
          · unfold textL at h
            simp only at h
            split at h
            · cases h
            · split at h
              · cases h; exact .inr rfl
              · cases h
theorem all_kind : ∀ (f p : Nat) (acc : List Tok) (l : List UInt8) (res : List Tok), (∀ t ∈ acc, t.kind = 2 ∨ t.attrs = []) → allA f p acc l = .ok res → ∀ t ∈ res, t.kind = 2 ∨ t.attrs = [] := by
  intro f
  induction f with
  | zero =>
    intro p acc l res ha h
    cases l with
    | nil =>
      simp only [allA, Except.ok.injEq] at h
      rw [← h]; exact ha
    | cons c r =>
      simp only [allA] at h
      cases h
  | succ f ih =>
    intro p acc l res ha h
    cases l with
    | nil =>
      simp only [allA, Except.ok.injEq] at h
      rw [← h]; exact ha
    | cons c r =>
      simp only [allA] at h
      split at h
      · cases h
      · rename_i x n hp
        refine ih _ _ _ _ ?_ h
        intro t ht
        rcases List.mem_append.1 ht with h1 | h1
        · exact ha t h1
        · obtain rfl := List.mem_singleton.1 h1
          exact piece_kind hp
theorem all_short : ∀ (f p : Nat) (acc : List Tok) (l : List UInt8), Whole l → (∀ b ∈ l, b ≠ 13) → ∀ res, allA f p acc l = .ok res → res.length ≤ acc.length + l.length := by
  intro f
  induction f with
  | zero =>
    intro p acc l _ _ res h
    cases l with
    | nil =>
      simp only [allA, Except.ok.injEq] at h
      rw [← h]; simp
    | cons c r =>
      simp only [allA] at h
      cases h
  | succ f ih =>
    intro p acc l hw h13 res h
    cases l with
    | nil =>
      simp only [allA, Except.ok.injEq] at h
      rw [← h]; simp
    | cons c r =>
      simp only [allA] at h
      split at h
      · cases h
      · rename_i x n hp
        obtain ⟨_, h1, h2, _, h4⟩ := piece_ok hw h13 (by simp) hp
        have := ih _ _ _ h4 (fun b hb => h13 b (List.mem_of_mem_drop hb)) res h
        rw [List.length_append, List.length_singleton, List.length_drop] at this
        omega
theorem flat_ge : ∀ al : List (List UInt8 × List UInt8), al.length ≤ (al.flatMap attrT).length := by
  intro al
  induction al with
  | nil => simp
  | cons a r ih =>
    simp only [List.flatMap_cons, List.length_append, List.length_cons]
    have : 1 ≤ (attrT a).length := by unfold attrT; simp
    omega
theorem textT_mem {t : Tok} {ts : List Tok} (h : t ∈ ts) : (textT t).length ≤ (ts.flatMap textT).length := by
  induction ts with
  | nil => cases h
  | cons x r ih =>
    simp only [List.flatMap_cons, List.length_append]
    rcases List.mem_cons.1 h with rfl | h
    · omega
    · have := ih h; omega
theorem all_short3 {l : List UInt8} {ts : List Tok} (hw : Whole l) (h13 : ∀ b ∈ l, b ≠ 13) (h : allL3 l = .ok ts) : ts.length ≤ l.length := by
  have := all_short l.length 0 [] l hw h13 ts h
  simpa using this
/-- What has been read has few attributes. -/
theorem all_few {l : List UInt8} {ts : List Tok} (hw : Whole l) (h13 : ∀ b ∈ l, b ≠ 13) (h : allL3 l = .ok ts) : (∀ t ∈ ts, t.attrs.length ≤ 6 * l.length) ∧ okAll true ts = true ∧ (ts.flatMap textT).length ≤ 6 * l.length := by
  unfold allL3 at h
  obtain ⟨us, h1, h2, h3⟩ := (all_ok l.length 0 [] l hw h13 (Nat.le_refl _)).1 ts h
  rw [List.nil_append] at h1
  subst h1
  refine ⟨fun t ht => ?_, h2, h3⟩
  rcases all_kind _ _ _ _ _ (fun t ht => by cases ht) h t ht with hk | ha
  · have h4 := textT_mem ht
    have h5 : t.attrs.length ≤ (textT t).length := by
      unfold textT
      rw [if_neg (by rw [hk]; decide), if_pos hk]
      have := flat_ge t.attrs
      simp only [List.length_cons, List.length_append]
      omega
    omega
  · rw [ha]; simp
end Go.Proofs.YtjldpkhfiffinaaGreatDoor.U
