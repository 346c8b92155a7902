/- Contracts and plain facts that the law stands on: Ln, Al. -/
import Derived.Test.YtjldpkhfiffinaaGreatDoorZC13
import Derived.Test.YtjldpkhfiffinaaGreatDoorZC02
import Derived.Test.YtjldpkhfiffinaaGreatDoorZC22
import Derived.Test.YtjldpkhfiffinaaGreatDoorZC23
import Derived.Test.YtjldpkhfiffinaaGreatDoorZC17
namespace Go.Proofs.YtjldpkhfiffinaaGreatDoor.U
open Go.RowKit Go.Shelf
def repF (old new : List UInt8) : Nat → List UInt8 → List UInt8
 | 0,l=>l
 | _ + 1,[]=>[]
 | f + 1,c :: t=>if begL old (c :: t) = true then new ++ repF old new f ((c :: t).drop old.length) else c :: repF old new f t
theorem index_cons (old : List UInt8) (c : UInt8) (t : List UInt8) (h : begL old (c :: t) = false) : Lib.index (c :: t) old = if Lib.index t old == -1 then -1 else Lib.index t old + 1:=by
 simp only [Lib.index]
 rw [if_neg (show ¬ old.isPrefixOf (c :: t) = true by unfold begL at h;rw [h];simp)]
theorem index_zero (old : List UInt8) (l : List UInt8) (h : begL old l = true) (hne : l ≠ []) : Lib.index l old = 0:=by
 cases l with
 | nil=>exact absurd rfl hne
 | cons c t=>
  simp only [Lib.index]
  rw [if_pos (show old.isPrefixOf (c :: t) = true from h)]
theorem rep_eq (old new : List UInt8) (h1 : old ≠ []) : ∀ (f : Nat) (l : List UInt8),l.length ≤ f → Lib.replaceK old new (Lib.count l old) l = repF old new f l:=by
 intro f
 induction f with
 | zero=>
  intro l hl
  obtain rfl : l = []:=List.eq_nil_of_length_eq_zero (by omega)
  have hi : Lib.index [] old = -1:=by cases old with | nil=>exact absurd rfl h1 | cons a t=>rfl
  rw [Lib.count_miss hi]
  rfl
 | succ f ih=>
  intro l hl
  have hlen : 1 ≤ old.length:=by cases old with | nil=>exact absurd rfl h1 | cons a t=>simp
  cases l with
  | nil=>
   have hi : Lib.index [] old = -1:=by cases old with | nil=>exact absurd rfl h1 | cons a t=>rfl
   rw [Lib.count_miss hi]
   rfl
  | cons c t=>
   cases hb : begL old (c :: t) with
   | true=>
    have hi : Lib.index (c :: t) old = ((0 : Nat) : Int):=index_zero old _ hb (by simp)
    rw [Lib.count_hit h1 hi,Nat.zero_add,show 1 + Lib.count ((c :: t).drop old.length) old = Lib.count ((c :: t).drop old.length) old + 1 by omega,Lib.replaceK_hit _ _ _ _ 0 hi]
    simp only [repF]
    rw [if_pos hb,Nat.zero_add,List.take_zero,List.nil_append,ih _ (by rw [List.length_drop];simp only [List.length_cons] at hl ⊢;omega)]
   | false=>
    have hi:=index_cons old c t hb
    simp only [repF]
    rw [if_neg (by rw [hb];simp),← ih t (by simpa using hl)]
    have hge:=Lib.index_ge t old
    by_cases hm : Lib.index t old = -1
    ·rw [hm] at hi
     rw [Lib.count_miss (show Lib.index (c :: t) old = -1 from hi),Lib.count_miss hm]
     rfl
    ·obtain ⟨i,hti⟩ : ∃ i : Nat,Lib.index t old = i:=⟨(Lib.index t old).toNat,by omega⟩
     have hi2 : Lib.index (c :: t) old = ((i + 1 : Nat) : Int):=by
      rw [hi,hti,if_neg (by simp)]
      rfl
     rw [Lib.count_hit h1 hi2,Lib.count_hit h1 hti]
     rw [show i + 1 + old.length = (i + old.length) + 1 by omega,List.drop_succ_cons]
     rw [show 1 + Lib.count (t.drop (i + old.length)) old = Lib.count (t.drop (i + old.length)) old + 1 by omega]
     rw [Lib.replaceK_hit _ _ _ _ (i + 1) hi2,Lib.replaceK_hit _ _ _ _ i hti]
     rw [show i + 1 + old.length = (i + old.length) + 1 by omega,List.drop_succ_cons]
     rfl
theorem replaceAll_rep {old new : List UInt8} (h1 : old ≠ []) (hne : old ≠ new) (l : List UInt8) : Lib.replaceAll l old new = repF old new l.length l:=by
 unfold Lib.replaceAll Lib.replace Lib.replaceNum
 rw [if_neg (by simpa using hne),if_pos (.inl (by omega))]
 exact rep_eq old new h1 _ _ (Nat.le_refl _)
theorem rep_len (old new : List UInt8) (hl : new.length ≤ old.length) : ∀ (f : Nat) (l : List UInt8),(repF old new f l).length ≤ l.length:=by
 intro f
 induction f with
 | zero=>intro l;exact Nat.le_refl _
 | succ f ih=>
  intro l
  cases l with
  | nil=>exact Nat.le_refl _
  | cons c t=>
   simp only [repF]
   split
   ·rename_i hb
    have h2:=begL_len hb
    have h3:=ih ((c :: t).drop old.length)
    rw [List.length_drop] at h3
    rw [List.length_append]
    omega
   ·simp only [List.length_cons]
    have:=ih t
    omega
theorem rep_fuel (old new : List UInt8) (h1 : 1 ≤ old.length) : ∀ (f g : Nat) (l : List UInt8),l.length ≤ f → l.length ≤ g → repF old new f l = repF old new g l:=by
 intro f
 induction f with
 | zero=>
  intro g l hf _
  obtain rfl : l = []:=List.eq_nil_of_length_eq_zero (by omega)
  cases g <;> rfl
 | succ f ih=>
  intro g l hf hg
  cases l with
  | nil=>cases g <;> rfl
  | cons c t=>
   cases g with
   | zero=>simp at hg
   | succ g=>
    simp only [repF]
    split
    ·rw [ih g _ (by rw [List.length_drop];simp only [List.length_cons] at hf ⊢;omega) (by rw [List.length_drop];simp only [List.length_cons] at hg ⊢;omega)]
    ·rw [ih g _ (by simpa using hf) (by simpa using hg)]
theorem lines_rep : ∀ (f g : Nat) (l : List UInt8),l.length ≤ f → l.length ≤ g → repF [13] [10] g (repF [13,10] [10] f l) = linesL l:=by
 intro f
 induction f with
 | zero=>
  intro g l hf _
  obtain rfl : l = []:=List.eq_nil_of_length_eq_zero (by omega)
  cases g <;> rfl
 | succ f ih=>
  intro g l hf hg
  cases l with
  | nil=>cases g <;> rfl
  | cons c t=>
   cases g with
   | zero=>simp at hg
   | succ g=>
    simp only [List.length_cons] at hf hg
    by_cases hb : begL [13,10] (c :: t) = true
    ·obtain ⟨r,hr⟩:=begL_iff.1 hb
     simp only [List.cons_append,List.nil_append,List.cons.injEq] at hr
     obtain ⟨rfl,rfl⟩:=hr
     simp only [repF]
     rw [if_pos hb]
     simp only [List.singleton_append,List.length_cons,List.length_nil,List.drop_succ_cons,List.drop_zero]
     rw [show repF [13] [10] (g + 1) (10 :: repF [13,10] [10] f r) = 10 :: repF [13] [10] g (repF [13,10] [10] f r) from rfl]
     rw [ih g r (by simp at hf;omega) (by simp at hg;omega)]
     simp [linesL]
    ·simp only [repF]
     rw [if_neg hb]
     simp only [repF]
     by_cases hc : c = 13
     ·subst hc
      have hh : t.head? ≠ some 10:=by
       intro e
       cases t with
       | nil=>cases e
       | cons a r=>simp at e;subst e;exact hb rfl
      rw [if_pos (show begL [13] (13 :: repF [13,10] [10] f t) = true from rfl)]
      simp only [List.singleton_append,List.length_cons,List.length_nil,List.drop_succ_cons,List.drop_zero,linesL]
      rw [if_pos trivial,if_neg hh,ih g t (by omega) (by omega)]
     ·rw [if_neg (by rw [begL_cons];simp [Ne.symm hc])]
      simp only [linesL]
      rw [if_neg hc,ih g t (by omega) (by omega)]
theorem lines_both_ways (l : List UInt8) : Lib.replaceAll (Lib.replaceAll l [13,10] [10]) [13] [10] = linesL l:=by
 rw [replaceAll_rep (by simp) (by simp),replaceAll_rep (by simp) (by simp)]
 rw [rep_fuel [13] [10] (by simp) _ l.length _ (Nat.le_refl _) (rep_len _ _ (by simp) _ _)]
 exact lines_rep _ _ _ (Nat.le_refl _) (Nat.le_refl _)
set_option maxHeartbeats 1000000 in
theorem tlines_any (s : ByteArray) (w : World) (hm : LayT w) (hs : s.size ≤ 1000000) :
  Calls Tryz.prog 56 #[.string s] w fun e w'=>e = .returned (.string ⟨(linesL (bts s)).toArray⟩) ∧ Below w.heap.size w w':=by
 have h1 : (Lib.replaceAll (bts s) [13,10] [10]).length ≤ s.size:=by
  rw [replaceAll_rep (by simp) (by simp),← bts_len]
  exact rep_len _ _ (by simp) _ _
 obtain ⟨m,hmx⟩:=hm.mx
 have HC1 : Hid (Calls Tryz.prog 101 #[.string s,.string ⟨#[13,10]⟩,.string ⟨#[10]⟩] w fun e w'=>e = .returned (.string ⟨(Lib.replaceAll (bts s) [13,10] [10]).toArray⟩) ∧ Below w.heap.size w w'):=Lib.hid (S.strings_ReplaceAll s ⟨#[13,10]⟩ ⟨#[10]⟩ m w (by omega) hmx (by decide) (by
  have:=Lib.count_le s.data.toList [13,10]
  have h2 : s.data.toList.length = s.size:=bts_len s
  show s.size + Lib.count s.data.toList [13,10] * 1 ≤ _
  omega))
 obtain ⟨y,hy⟩ : ∃ y : ByteArray,y = ⟨(Lib.replaceAll (bts s) [13,10] [10]).toArray⟩:=⟨_,rfl⟩
 have hby : bts y = Lib.replaceAll (bts s) [13,10] [10]:=by rw [hy,bts_mk]
 have hys : y.size ≤ s.size:=by rw [← bts_len,hby];exact h1
 have HC2 : Hid (∀ W,LayT W → Calls Tryz.prog 101 #[.string y,.string ⟨#[13]⟩,.string ⟨#[10]⟩] W fun e w'=>e = .returned (.string ⟨(linesL (bts s)).toArray⟩) ∧ Below W.heap.size W w'):=Lib.hid (fun W k=>by
  obtain ⟨m',hm'⟩:=k.mx
  have:=S.strings_ReplaceAll y ⟨#[13]⟩ ⟨#[10]⟩ m' W (by omega) hm' (by decide) (by
   have:=Lib.count_le y.data.toList [13]
   have h2 : y.data.toList.length = y.size:=bts_len y
   show y.size + Lib.count y.data.toList [13] * 1 ≤ _
   omega)
  have e : Lib.replaceAll y.data.toList [13] [10] = linesL (bts s):=by
   show Lib.replaceAll (bts y) [13] [10] = _
   rw [hby,lines_both_ways]
  refine this.mono ?_
  rintro r w' ⟨h3,h4⟩
  refine ⟨?_,h4⟩
  rw [h3]
  show Ending.returned (.string ⟨(Lib.replaceAll y.data.toList [13] [10]).toArray⟩) = _
  rw [e])
 rw [← hy] at HC1
 have HM:=Lib.hid hm
 clear hy hby hys h1 hmx hm
 go_enter Tryz.func56,Tryz.ntmps56
 go_wp2_with fail
 refine HC1.out.mono ?_
 rintro e w2 ⟨rfl,hb2⟩
 have HB2:=Lib.hid hb2
 have HM2:=Lib.hid (HM.out.below hb2 HM.out.size)
 clear hb2
 go_wp2_with fail
 refine (HC2.out _ HM2.out).mono ?_
 rintro e w3 ⟨rfl,hb3⟩
 have HB3:=Lib.hid (th HB2.out (Nat.le_refl _) hb3)
 clear hb3
 go_wp2
 go_ret
 exact ⟨rfl,HB3.out⟩
theorem spiece_any (b k mb : Nat) (doc : ByteArray) (w : World) (hm : LayT w) (hbt : 6 ≤ b) (h : BoxS b doc k (.slice (some ⟨mb,0,none⟩) 5 5) w) (hmk : MarksAt mb w) (hs : doc.size ≤ 100000) (hk : k ≤ doc.size) (hw : Whole ((bts doc).drop k)) :
  Calls Tryz.prog 59 #[.pointer (some ⟨b,0,none⟩)] w fun e w'=>ReadP b k doc (.slice (some ⟨mb,0,none⟩) 5 5) (pieceL (k == 0) ((bts doc).drop k)) w e w':=by
 cases h0 : begL sXml ((bts doc).drop k) with
 | true=>exact spiece_x b k mb doc w hm hbt h hmk hs hk hw h0
 | false=>
  cases h1 : begL sCom ((bts doc).drop k) with
  | true=>exact spiece_c b k mb doc w hm hbt h hmk hs hk hw h0 h1
  | false=>
   cases h2 : begL sCd ((bts doc).drop k) with
   | true=>exact spiece_d b k mb doc w hm hbt h hmk hs hk hw h0 h1 h2
   | false=>
    cases h3 : begL [60,47] ((bts doc).drop k) with
    | true=>exact spiece_l b k mb doc w hm hbt h hmk hs hk hw h0 h1 h2 h3
    | false=>
     cases h4 : begL [60] ((bts doc).drop k) with
     | true=>exact spiece_o b k mb doc w hm hbt h hmk hs hk hw h0 h1 h2 h3 h4
     | false=>exact spiece_t b k mb doc w hm hbt h hmk hs hk hw h0 h1 h2 h3 h4
theorem conv_byt {w : World} {a : Option Addr} {len cap : Nat} {l : List UInt8} (h : Byt w a len cap (ints l)) : (convert 22 9 (.slice a len cap)).run Tryz.prog w = .ok (.string ⟨l.toArray⟩) w:=by
 have hlen : l.length = len:=by rw [← ints_len];exact h.eqLen
 by_cases h0 : 0 < len
 ·obtain ⟨b,off,rfl,hc⟩:=h.cells h0
  subst hlen
  refine run_convert_bytes_back (P:=Tryz.prog) w 22 9 5 ⟨b,off,none⟩ cap l Tryz.underlying22 Tryz.underlying5 Tryz.underlying9 (fun j hj=>?_)
  rw [show (⟨b,off,none⟩ : Addr).add j = ⟨b,off + j,none⟩ by unfold Addr.add;split <;> simp_all]
  rw [hc j hj]
  unfold ints
  rw [List.getElem?_map,List.getElem?_eq_getElem hj]
  rfl
 ·obtain rfl : len = 0:=by omega
  obtain rfl : l = []:=List.eq_nil_of_length_eq_zero hlen
  cases a with
  | none=>exact run_convert_bytes_nil (P:=Tryz.prog) w 22 5 Tryz.underlying22 Tryz.underlying5 0 cap 9 Tryz.underlying9
  | some b=>exact run_convert_bytes_back (P:=Tryz.prog) w 22 9 5 b cap [] Tryz.underlying22 Tryz.underlying5 Tryz.underlying9 (fun j hj=>by simp at hj)
def TokRowK (w : World) (base : Nat) (v : Value) (l : List (Tok × Value)) : Prop:=
 w.ownsRow base 119 5 v l.length (tvCells l) ∧ ∀ x ∈ l,w.ownsRow base 82 2 x.2 x.1.attrs.length (attrCells x.1.attrs)
theorem TokRowK.below {w w' : World} {base : Nat} {v : Value} {l : List (Tok × Value)} (h : TokRowK w base v l) (hb : Below w.heap.size w w') : TokRowK w' base v l:=
 ⟨ownBelow h.1 hb,fun x hx=>ownBelow (h.2 x hx) hb⟩
theorem own_kept {w w' : World} {base b size n : Nat} {e : TypeId} {v : Value} {xs : List Value} (h : w.ownsRow base e size v n xs) (hg : w.grownBy w' (some b)) (hb : b < base) : w'.ownsRow base e size v n xs:=
 h.kept hg (by
  cases hv : v.ownBlock with
  | none=>exact .inl rfl
  | some g=>exact .inr (fun e=>by have:=(h.lt g hv).1;have:=Option.some.inj e;omega))
theorem TokRowK.kept {w w' : World} {base b : Nat} {v : Value} {l : List (Tok × Value)} (h : TokRowK w base v l) (hg : w.grownBy w' (some b)) (hb : b < base) : TokRowK w' base v l:=
 ⟨own_kept h.1 hg hb,fun x hx=>own_kept (h.2 x hx) hg hb⟩
theorem TokRowK.mono {w : World} {base base' : Nat} {v : Value} {l : List (Tok × Value)} (h : TokRowK w base v l) (hb : base' ≤ base) : TokRowK w base' v l:=
 ⟨own_mono h.1 hb,fun x hx=>own_mono (h.2 x hx) hb⟩
theorem TokRowK.more {w w' : World} {base : Nat} {v v' : Value} {l : List (Tok × Value)} {x : Tok × Value} (h : TokRowK w base v l) (hx : w.ownsRow base 82 2 x.2 x.1.attrs.length (attrCells x.1.attrs))
  (h1 : w'.ownsRow base 119 5 v' (l.length + 1) (tvCells l ++ (tokCells x.1 x.2).toList)) (hg : w.grownBy w' v.ownBlock) : TokRowK w' base v' (l ++ [x]):=by
 refine ⟨?_,fun y hy=>?_⟩
 ·rw [List.length_append,List.length_singleton,show tvCells (l ++ [x]) = tvCells l ++ (tokCells x.1 x.2).toList by unfold tvCells;rw [List.flatMap_append];simp]
  exact h1
 ·rcases List.mem_append.1 hy with h2 | h2
  ·exact (h.2 y h2).kept hg (own_ne (h.2 y h2) h.1 (by decide))
  ·obtain rfl:=List.mem_singleton.1 h2
   exact hx.kept hg (own_ne hx h.1 (by decide))
theorem infoTK : (Tryz.prog.info? 119).map (fun i=>(i.zero,i.size,i.bytes)) = some (some (.agg #[.int .i64 0,.string ⟨#[]⟩,.string ⟨#[]⟩,.slice none 0 0,.bool false]),5,72):=by kernel_rfl
def allT (l : List UInt8) : Except (Nat × Int) (List Tok):=
 if 65536 < l.length then .error (0,17)
 else if chkC (ints l) < l.length then .error (chkC (ints l),10)
 else match allL3 (linesL l) with
  | .ok ts=>.ok ts
  | .error p=>.error (p,12)
def AllPostT (o : Except (Nat × Int) (List Tok)) (w : World) (e : Ending) (w' : World) : Prop:=
 Below w.heap.size w w' ∧ ((∃ a c l,o = .ok (l.map (·.1)) ∧ e = .returned (.tuple #[.slice a l.length c,.int .i64 0,.int .i64 0]) ∧ TokRowK w' w.heap.size (.slice a l.length c) l) ∨
  (∃ (p : Nat) (z : Int),o = .error (p,z) ∧ e = .returned (.tuple #[.slice none 0 0,.int .i64 p,.int .i64 z])))
def ApartT (l : List (Tok × Value)) : Prop:=l.Pairwise fun x y=>x.2.ownBlock = none ∨ x.2.ownBlock ≠ y.2.ownBlock
theorem ApartT.snoc {w w' : World} {b1 b2 n size : Nat} {e : TypeId} {l : List (Tok × Value)} {x : Tok × Value} {xs : List Value} (h : ApartT l) (hl : ∀ y ∈ l,w.ownsRow b1 82 2 y.2 y.1.attrs.length (attrCells y.1.attrs)) (hx : w'.ownsRow b2 e size x.2 n xs) (hb : w.heap.size ≤ b2) : ApartT (l ++ [x]):=by
 unfold ApartT
 rw [List.pairwise_append]
 refine ⟨h,List.pairwise_singleton _ _,fun y hy z hz=>?_⟩
 obtain rfl:=List.mem_singleton.1 hz
 cases hv : y.2.ownBlock with
 | none=>exact .inl rfl
 | some g=>
  refine .inr (fun e=>?_)
  have h1:=((hl y hy).lt g hv).2
  have h2:=(hx.lt g e.symm).1
  omega
def AllPostD (o : Except (Nat × Int) (List Tok)) (w : World) (e : Ending) (w' : World) : Prop:=
 Below w.heap.size w w' ∧ ((∃ a c l,o = .ok (l.map (·.1)) ∧ e = .returned (.tuple #[.slice a l.length c,.int .i64 0,.int .i64 0]) ∧ TokRowK w' w.heap.size (.slice a l.length c) l ∧ ApartT l) ∨
  (∃ (p : Nat) (z : Int),o = .error (p,z) ∧ e = .returned (.tuple #[.slice none 0 0,.int .i64 p,.int .i64 z])))
set_option maxHeartbeats 4000000 in
set_option maxRecDepth 20000 in
theorem tall_anyD (a : Option Addr) (len cap : Nat) (l : List UInt8) (w : World) (hm : LayT w) (hz : Byt w a len cap (ints l)) :
  Calls Tryz.prog 30 #[.slice a len cap] w fun e w'=>AllPostD (allT l) w e w':=by
 have hlen : l.length = len:=by rw [← ints_len];exact hz.eqLen
 by_cases hbig : 65536 < len
 ·have HA : Hid (allT l = .error (0,17)):=Lib.hid (by unfold allT;rw [if_pos (by omega)])
  have hlim:=hz.lim
  clear hlen hz hm
  go_enter Tryz.func30,Tryz.ntmps30
  go_wp2_with fail
  go_step3
  go_wp2
  rw [Exit.noGoto_ret]
  go_ret3
  exact ⟨Below.refl _ _,.inr ⟨0,17,HA.out,rfl⟩⟩
 ·have HCK:=Lib.hid (check_any a len cap (ints l) w hm.lay.lay hz)
  have HZ:=Lib.hid hz
  have HM:=Lib.hid hm
  by_cases hck : chkC (ints l) < l.length
  ·have HA : Hid (allT l = .error (chkC (ints l),10)):=Lib.hid (by unfold allT;rw [if_neg (by omega),if_pos hck])
   have hE : chkE (ints l) = 10:=by unfold chkE;rw [if_pos (by rw [ints_len];exact hck)]
   rw [hE] at HCK
   clear hlen hz hm hck hE
   go_enter Tryz.func30,Tryz.ntmps30
   go_wp2_with fail
   go_step3
   go_wp2_with fail
   refine HCK.out.mono ?_
   rintro e w2 ⟨rfl,hb⟩
   go_wp2
   rw [Exit.noGoto_ret]
   go_ret3
   exact ⟨hb,.inr ⟨_,10,HA.out,rfl⟩⟩
  ·have hE : chkE (ints l) = 0:=by unfold chkE;rw [if_neg (by rw [ints_len];exact hck)]
   rw [hE] at HCK
   have hwh : Whole l:=(wholeB_iff l).1 (by
    have:=chkC_le (ints l)
    rw [ints_len] at this
    simp [wholeB];omega)
   obtain ⟨doc,hdoc⟩ : ∃ doc : ByteArray,doc = ⟨(linesL l).toArray⟩:=⟨_,rfl⟩
   have hbd : bts doc = linesL l:=by rw [hdoc,bts_mk]
   have hds : doc.size ≤ len:=by rw [← bts_len,hbd,← hlen];exact lines_len l
   have hds1 : doc.size ≤ 100000:=by omega
   have HTL : Hid (∀ W,LayT W → Calls Tryz.prog 56 #[.string ⟨l.toArray⟩] W fun e w'=>e = .returned (.string doc) ∧ Below W.heap.size W w'):=Lib.hid (fun W k=>by
    have:=tlines_any ⟨l.toArray⟩ W k (by rw [← bts_len,bts_mk];omega)
    rw [bts_mk,← hdoc] at this
    exact this)
   have HWD : Hid (Whole (bts doc)):=Lib.hid (by rw [hbd];exact lines_whole hwh)
   have H13 : Hid (∀ c ∈ bts doc,c ≠ 13):=Lib.hid (by rw [hbd];exact lines_no13 l)
   have HA : Hid (allT l = match allL3 (bts doc) with | .ok ts=>.ok ts | .error p=>.error (p,12)):=Lib.hid (by unfold allT;rw [if_neg (by omega),if_neg hck,hbd])
   have hl:=bts_len doc
   have HCV : Hid (∀ W,Below w.heap.size w W → (convert 22 9 (.slice a len cap)).run Tryz.prog W = .ok (.string ⟨l.toArray⟩) W):=Lib.hid (fun W hb=>conv_byt (HZ.out.below hb (Nat.le_refl _)))
   have HIT:=Lib.hid infoTK
   clear hlen hz hm hck hE hwh hdoc hbd hds
   go_enter Tryz.func30,Tryz.ntmps30
   go_wp2_with fail
   go_step3
   go_wp2_with fail
   refine HCK.out.mono ?_
   rintro e w2 ⟨rfl,hb2⟩
   have HB2:=Lib.hid hb2
   have HM2:=Lib.hid (HM.out.below hb2 HM.out.size)
   have hcv:=HCV.out w2 hb2
   clear hb2
   go_wp2_with fail
   refine (HTL.out _ HM2.out).mono ?_
   rintro e w3 ⟨rfl,hb3⟩
   have HM3:=Lib.hid (HM2.out.below hb3 HM2.out.size)
   have HB3:=Lib.hid (th HB2.out (Nat.le_refl _) hb3)
   clear hb3 hcv
   go_wp2_with fail
   refine (marks_any _).mono ?_
   rintro e w4 ⟨rfl,hmk4,hb4⟩
   have HM4:=Lib.hid (HM3.out.below hb4 HM3.out.size)
   have HB4:=Lib.hid (th HB3.out (Nat.le_refl _) hb4)
   have HK4:=Lib.hid hmk4
   obtain ⟨mb,hmb⟩ : ∃ mb,mb = w3.heap.size:=⟨_,rfl⟩
   rw [← hmb] at HK4 ⊢
   clear hmk4 hb4 hmb
   go_wp2_with fail
   go_step3
   go_wp2_with fail
   have HMLT : Hid (mb < w4.heap.size):=Lib.hid HK4.out.lt
   have HTB : Hid (6 ≤ w4.heap.size):=Lib.hid (Nat.le_trans HM.out.size HB4.out.size)
   have HGW : Hid (w.heap.size ≤ w4.heap.size):=Lib.hid HB4.out.size
   obtain ⟨w5,hw5⟩ : ∃ w5,w5 = w4.alloc (.cells #[.string doc,.int .i64 0,.slice (some ⟨mb,0,none⟩) 5 5] 118):=⟨_,rfl⟩
   have hb45 : Below w4.heap.size w4 w5:=by rw [hw5];exact (Below.refl _ w4).alloc (Nat.le_refl _) _
   have HX5 : Hid (BoxS w4.heap.size doc 0 (.slice (some ⟨mb,0,none⟩) 5 5) w5):=Lib.hid (by rw [hw5];exact heap_alloc_new w4 _)
   have HK5:=Lib.hid (HK4.out.below hb45)
   have HB5:=Lib.hid (th HB4.out (Nat.le_refl _) hb45)
   rw [← hw5]
   clear hw5 hb45
   obtain ⟨b,hbe⟩ : ∃ b,b = w4.heap.size:=⟨_,rfl⟩
   rw [← hbe] at HMLT HTB HGW HX5 ⊢
   clear hbe HM4 HB4 HK4 HM3 HB3 HM2 HB2 HTL HCV HCK
   have HMB : Hid (mb ≠ b):=Lib.hid (by have:=HMLT.out;omega)
   go_loopw [7,8,9] (fun v e0 e1 wr=>∃ (p f : Nat) (a1 : Option Addr) (c1 : Nat) (l1 : List (Tok × Value)),p ≤ doc.size ∧ doc.size - p ≤ f ∧ v = .slice a1 l1.length c1 ∧ e0 = .int .i64 0 ∧ e1 = .int .i64 0 ∧ l1.length ≤ p ∧ Hid (Whole ((bts doc).drop p)) ∧ Hid (allL3 (bts doc) = allA f p (l1.map (·.1)) ((bts doc).drop p)) ∧ Hid (TokRowK wr (b + 1) (.slice a1 l1.length c1) l1) ∧ Hid (BoxS b doc p (.slice (some ⟨mb,0,none⟩) 5 5) wr) ∧ Hid (MarksAt mb wr) ∧ Hid (Below w.heap.size w wr) ∧ Hid (ApartT l1)) (fun _ _ _ wr=>doc.size - placeOf b wr)
   case atStart=>exact ⟨0,doc.size,none,0,[],by omega,by omega,rfl,rfl,rfl,by simp,HWD,Lib.hid (by unfold allL3;rw [hl];rfl),Lib.hid ⟨World.ownsRow_nil _ _ _ _,fun x hx=>by cases hx⟩,HX5,HK5,HB5,Lib.hid List.Pairwise.nil⟩
   case round=>
    obtain ⟨p,f,a1,c1,l1,hp,hf,rfl,rfl,rfl,hll,HWP,HA1,HT,HX,HK,HB,HAP⟩:=hrel
    have HLT:=Lib.hid (HM.out.below HB.out HM.out.size)
    have HMR:=Lib.hid (more_any b p doc (.slice (some ⟨mb,0,none⟩) 5 5) wr HX.out)
    by_cases hlt : p < doc.size
    ·rw [decide_eq_true hlt] at HMR
     obtain ⟨f,rfl⟩ : ∃ g,f = g + 1:=⟨f - 1,by omega⟩
     have hne : (bts doc).drop p ≠ []:=by rw [bts_drop doc p hlt];simp
     have h13p : ∀ b ∈ (bts doc).drop p,b ≠ 13:=fun b hb=>H13.out b (List.mem_of_mem_drop hb)
     have HPC:=Lib.hid (fun n=>(spiece_any b p mb doc (wr.drewN n) (HLT.out.below (below_drewN (Below.refl _ wr) n) HLT.out.size) HTB.out (HX.out.drewN n) HK.out hds1 hp HWP.out).mono (fun e w' r=>ReadP.spell (base:=wr.heap.size) r (Nat.le_refl _)))
     have HST:=Lib.hid (allA_cons (f:=f) (p:=p) (acc:=l1.map (·.1)) hne)
     cases hpc : pieceL (p == 0) ((bts doc).drop p) with
     | none=>
      have HE : Hid (allT l = .error (p,12)):=Lib.hid (by rw [HA.out,HA1.out,HST.out,hpc])
      have HC : Hid (∀ n,Calls Tryz.prog 59 #[.pointer (some ⟨b,0,none⟩)] (wr.drewN n) fun e w'=>∃ ki xx yy aa cc dd em,e = .returned (.tuple #[.agg #[.int .i64 ki,.string xx,.string yy,.slice aa cc dd,.bool em],.bool false]) ∧ Below w.heap.size w w'):=Lib.hid (fun n=>(HPC.out n).mono (by
       rintro e w' (⟨t,n',a,c,h1,_⟩ | ⟨_,ki,x,y,a,c,d,em,q,hq,h1,h2⟩)
       ·rw [hpc] at h1;cases h1
       ·exact ⟨ki,x,y,a,c,d,em,h1,Below.grown (below_drewN HB.out n) h2.grown (by show w.heap.size ≤ wr.heap.size;exact HB.out.size) (fun k e=>by have:=Option.some.inj e;have:=HGW.out;omega)⟩))
      clear hne h13p hpc HPC
      obtain ⟨k0,k1,k2,_⟩:=HX.out.at
      go_wp2_with fail
      refine HMR.out.mono ?_
      rintro e w6 ⟨rfl,n,rfl⟩
      obtain ⟨k3,k4,k5,_⟩:=(HX.out.drewN n).at
      go_wp2_with fail
      refine (HC.out n).mono ?_
      rintro e w7 ⟨ki,xx,yy,aa,cc,dd,em,rfl,hb7⟩
      have HB7:=Lib.hid (th hb7 (Nat.le_refl _) ((Below.refl _ w7).alloc (Nat.le_refl _) (.cells #[.int .i64 ki,.string xx,.string yy,.slice aa cc dd,.bool em] 119)))
      clear hb7 k0 k1 k2 k3 k4 k5
      go_wp2_with fail
      rw [Exit.noGoto_ret]
      go_ret3
      exact ⟨HB7.out,.inr ⟨p,12,HE.out,rfl⟩⟩
     | some y=>
      obtain ⟨t,n⟩:=y
      obtain ⟨_,hn1,hn2,_,hwn⟩:=piece_ok HWP.out h13p hne hpc
      rw [List.length_drop,hl] at hn2
      rw [List.drop_drop] at hwn
      obtain ⟨q,hq⟩ : ∃ q,q = p + n:=⟨_,rfl⟩
      rw [← hq] at hwn
      have HWN:=Lib.hid hwn
      have HE : Hid (allL3 (bts doc) = allA f q (l1.map (·.1) ++ [t]) ((bts doc).drop q)):=Lib.hid (by rw [HA1.out,HST.out,hpc];simp only [List.drop_drop,← hq])
      have HC : Hid (∀ m,Calls Tryz.prog 59 #[.pointer (some ⟨b,0,none⟩)] (wr.drewN m) fun e w'=>∃ va vc,e = .returned (.tuple #[.agg #[.int .i64 t.kind,.string ⟨t.name.toArray⟩,.string ⟨t.text.toArray⟩,.slice va t.attrs.length vc,.bool t.empty],.bool true]) ∧ Moves b doc (.slice (some ⟨mb,0,none⟩) 5 5) q (wr.drewN m) w' ∧ w'.ownsRow wr.heap.size 82 2 (.slice va t.attrs.length vc) t.attrs.length (attrCells t.attrs)):=Lib.hid (fun m=>(HPC.out m).mono (by
       rintro e w' (⟨t',n',a,c,h1,h2,h3,h4⟩ | ⟨h1,_⟩)
       ·rw [hpc] at h1
        obtain ⟨rfl,rfl⟩:=Prod.mk.inj (Option.some.inj h1)
        rw [← hq] at h3
        exact ⟨a,c,h2,h3,h4⟩
       ·rw [hpc] at h1;cases h1))
      have hqs : q ≤ doc.size:=by omega
      have hpq : p < q:=by omega
      clear hne h13p hpc hwn hn1 hn2 hq HPC
      obtain ⟨k0,k1,k2,_⟩:=HX.out.at
      go_wp2_with fail
      refine HMR.out.mono ?_
      rintro e w6 ⟨rfl,m,rfl⟩
      obtain ⟨k3,k4,k5,_⟩:=(HX.out.drewN m).at
      go_wp2_with fail
      refine (HC.out m).mono ?_
      rintro e w2 ⟨va,vc,rfl,hmv,hrow⟩
      have hkb : Below w2.heap.size w2 (w2.alloc (.cells #[.int .i64 t.kind,.string ⟨t.name.toArray⟩,.string ⟨t.text.toArray⟩,.slice va t.attrs.length vc,.bool t.empty] 119)):=(Below.refl _ w2).alloc (Nat.le_refl _) _
      have HT2:=Lib.hid ((HT.out.kept (w:=wr.drewN m) hmv.grown (Nat.lt_succ_self _)).below hkb)
      have HX2:=Lib.hid (hmv.box.below hkb)
      have HK2:=Lib.hid ((MarksAt.kept (w:=wr.drewN m) HK.out hmv.grown HMB.out).below hkb)
      have HB2:=Lib.hid (th (Below.grown (below_drewN HB.out m) hmv.grown (by show w.heap.size ≤ wr.heap.size;exact HB.out.size) (fun k e=>by have:=Option.some.inj e;have:=HGW.out;omega)) (Nat.le_refl _) hkb)
      have HAP2 : Hid (ApartT (l1 ++ [(t,.slice va t.attrs.length vc)])):=Lib.hid (HAP.out.snoc HT.out.2 hrow (Nat.le_refl _))
      have HR2:=Lib.hid ((own_mono hrow (Nat.succ_le_of_lt HX.out.lt)).alloc (.cells #[.int .i64 t.kind,.string ⟨t.name.toArray⟩,.string ⟨t.text.toArray⟩,.slice va t.attrs.length vc,.bool t.empty] 119))
      have HBX2 : Hid (BoxK w2.heap.size t.kind ⟨t.name.toArray⟩ ⟨t.text.toArray⟩ (.slice va t.attrs.length vc) t.empty (w2.alloc (.cells #[.int .i64 t.kind,.string ⟨t.name.toArray⟩,.string ⟨t.text.toArray⟩,.slice va t.attrs.length vc,.bool t.empty] 119))):=Lib.hid (BoxK.made _ _ _ _ _ _)
      have HSZ2 : Hid (b < w2.heap.size):=Lib.hid hmv.box.lt
      clear hmv hrow hkb k0 k1 k2 k3 k4 k5
      obtain ⟨e0,e1,e2,e3,e4,_⟩:=HBX2.out.at
      obtain ⟨i0,hi,hz0,hz1,hz2⟩:=info_parts HIT.out
      have HN2:=Lib.hid (cell_five_new (w2.alloc (.cells #[.int .i64 t.kind,.string ⟨t.name.toArray⟩,.string ⟨t.text.toArray⟩,.slice va t.attrs.length vc,.bool t.empty] 119)) (.int .i64 t.kind) (.string ⟨t.name.toArray⟩) (.string ⟨t.text.toArray⟩) (.slice va t.attrs.length vc) (.bool t.empty) 119)
      rw [show (w2.alloc (.cells #[.int .i64 t.kind,.string ⟨t.name.toArray⟩,.string ⟨t.text.toArray⟩,.slice va t.attrs.length vc,.bool t.empty] 119)).heap.size = w2.heap.size + 1 by simp] at HN2
      go_wp2_with (at_builtin;go_loud (refine wpList_append_own _ rfl _ _ 65 rfl (b + 1) 119 i0 (.agg #[.int .i64 0,.string ⟨#[]⟩,.string ⟨#[]⟩,.slice none 0 0,.bool false]) 5 72 Tryz.underlying65 hi hz0 hz1 hz2 rfl (by decide) _ _ _ rfl (HT2.out.1.alloc _) ⟨w2.heap.size + 1,0,none⟩ 1 1 [.int .i64 t.kind,.string ⟨t.name.toArray⟩,.string ⟨t.text.toArray⟩,.slice va t.attrs.length vc,.bool t.empty] rfl rfl HN2.out (by simp [Value.oneCell']) (by unfold maxLen;omega) (by omega) (by have:=HSZ2.out;simp;omega) ?_);intro v5 w9 hown5 hgrow5 _)
      obtain ⟨a5,c5,rfl⟩:=own_slice hown5
      have hk3 : Below (w2.alloc (.cells #[.int .i64 t.kind,.string ⟨t.name.toArray⟩,.string ⟨t.text.toArray⟩,.slice va t.attrs.length vc,.bool t.empty] 119)).heap.size (w2.alloc (.cells #[.int .i64 t.kind,.string ⟨t.name.toArray⟩,.string ⟨t.text.toArray⟩,.slice va t.attrs.length vc,.bool t.empty] 119)) ((w2.alloc (.cells #[.int .i64 t.kind,.string ⟨t.name.toArray⟩,.string ⟨t.text.toArray⟩,.slice va t.attrs.length vc,.bool t.empty] 119)).alloc (.cells #[.int .i64 t.kind,.string ⟨t.name.toArray⟩,.string ⟨t.text.toArray⟩,.slice va t.attrs.length vc,.bool t.empty] 119)):=(Below.refl _ _).alloc (Nat.le_refl _) _
      have HX9:=Lib.hid (HX2.out.below hk3)
      have HK9:=Lib.hid (HK2.out.below hk3)
      have HNB : ∀ g,some g = Value.ownBlock (.slice a1 l1.length c1) → b + 1 ≤ g:=fun g e=>(HT2.out.1.lt g e.symm).1
      have HXZ : Hid (BoxS b doc q (.slice (some ⟨mb,0,none⟩) 5 5) w9):=Lib.hid ((hgrow5.block b HX9.out.lt (fun e=>by have:=HNB b e;omega)).trans HX9.out)
      have HKZ : Hid (MarksAt mb w9):=Lib.hid ((hgrow5.block mb HK9.out.lt (fun e=>by have:=HNB mb e;have:=HMLT.out;omega)).trans HK9.out)
      refine ⟨⟨q,f,a5,c5,l1 ++ [(t,.slice va t.attrs.length vc)],hqs,by omega,by simp,rfl,rfl,by simp;omega,HWN,Lib.hid (by rw [HE.out,List.map_append];rfl),?_,HXZ,HKZ,?_,HAP2⟩,by rw [placeOf_box HXZ.out,placeOf_box HX.out];omega⟩
      ·exact Lib.hid (by
        rw [List.length_append,List.length_singleton]
        exact (HT2.out.below hk3).more (HR2.out.alloc _) hown5 hgrow5)
      ·exact Lib.hid (Below.grown (HB2.out.trans (hk3.mono (by have:=HB2.out.size;omega))) hgrow5 (by have:=HB2.out.size;simp at this ⊢;omega) (fun k e=>by have:=HNB k e.symm;have:=HGW.out;omega))
    ·rw [decide_eq_false hlt] at HMR
     obtain rfl : p = doc.size:=by omega
     have HE : Hid (allT l = .ok (l1.map (·.1))):=Lib.hid (by
      rw [HA.out,HA1.out,List.drop_of_length_le (by omega)]
      cases f <;> rfl)
     obtain ⟨k0,k1,k2,_⟩:=HX.out.at
     go_wp2_with fail
     refine HMR.out.mono ?_
     rintro e w6 ⟨rfl,n,rfl⟩
     go_wp2
     rw [Exit.noGoto_ret]
     go_ret3
     exact ⟨below_drewN HB.out n,.inl ⟨a1,c1,l1,HE.out,rfl,HT.out.mono (by have:=HGW.out;omega),HAP.out⟩⟩
end Go.Proofs.YtjldpkhfiffinaaGreatDoor.U
