/- Contracts and plain facts that the law stands on: Q11, Lb, Law0, Cb, Lq0. -/
import Derived.Test.YtjldpkhfiffinaaGreatDoorZP09
import Derived.Deep.RegionWith
import Derived.Test.YtjldpkhfiffinaaGreatDoorRows
import Derived.WalkKit
import Derived.WalkSpells
import Derived.WalkLawsBesides
import Derived.Lib.Hide
import Derived.Laws.Rows
import Derived.Lib.OthersKept
import Derived.BigQuiet
import Derived.BigCall
import Derived.Shelf.Abstract
import Derived.Lib.Strings
import Derived.Deep.QuietTactic
import Derived.Lib.ConvBytes
import Derived.Shelf.Strings.Builder1
import Derived.Shelf.Strings.Builder2
import Derived.Shelf.Small.Strs
import Derived.Shelf.Small.Wraps
import Derived.Shelf.Strings.BuilderF
import Derived.Shelf.Strings.BuilderK
import Derived.Shelf.Strings.BuilderRune
import Derived.Ground.MpProg
import Derived.Shelf.Pu.ParseUintPublic10
import Derived.Shelf.Strings.Search1
import Derived.Shelf.Strings.Search2
import Derived.Shelf.Strings.Search3
import Derived.Shelf.Strings.Cut
import Derived.Shelf.Strings.Count
import Derived.Shelf.LaysM
import Derived.Shelf.Strings.Shaped
import Derived.Shelf.Strings.Prefix
import Derived.Shelf.Strings.Split
import Derived.Shelf.Strings.Replace
import Derived.Shelf.Strings.SplitShaped
import Derived.Shelf.Unicode.DecodeSlow
import Derived.Deep.RegionHeld3
import Derived.Deep.MidRow
import Derived.Deep.WholeRow
import Derived.Defers
import Derived.Laws.Pointers
import Derived.Laws.LoneSync
import Derived.RegionTactic
import Derived.RegionCalls
import Derived.Lib.SliceRun
import Derived.BigGuard
import Derived.WalkMore
import Derived.Lib.Walk
import Derived.Laws.Strings3
import Derived.Laws.Closers25
import Derived.Laws.Closers25b
import Derived.Shelf.Pu.ToError
import Derived.Deep.DeepMust
import Derived.Maps.OwnSet
import Derived.Laws.EntriesVeiled
import Derived.ArgAppend
import Derived.Sort.Row
import Derived.Shelf.GgSortFunc.InsertionK
import Derived.RangeFuncNested
import Derived.RangeFuncBound
import Derived.RangeFuncLeaves
import Derived.Shelf.RegionOpen
import Derived.OwnWalkIn
import Derived.TacticsInMore
import Derived.LoopNIn
import Derived.LoopIn
import Derived.TacticsIn
import Derived.Shelf.SlSortCmp.NoneTotal
import Derived.Ground.SlsfProg
import Derived.Shelf.SlSorted.Search
import Derived.Lib.AppendStr
import Derived.Deep.AppendLies
import Derived.Lib.SlBytesConst
namespace Go.Proofs.YtjldpkhfiffinaaGreatDoor.U
open Go.RowKit Go.Shelf
theorem Box5.drew {b : Nat} {ki : Int} {x y : ByteArray} {v : Value} {em : Bool} {w : World} (h : Box5 b ki x y v em w) : Box5 b ki x y v em w.drew:=h
set_option maxHeartbeats 4000000 in
set_option maxRecDepth 10000 in
theorem pieceClose_any (s : ByteArray) (k : Nat) (w : World) (hk : k < s.size) (hs : s.size ≤ 100000) (h0 : ¬ ((k == 0) = true ∧ begL sXml ((bts s).drop k) = true)) (h1 : begL sCom ((bts s).drop k) = false) (h2 : begL sCd ((bts s).drop k) = false) (h3 : begL [60,47] ((bts s).drop k) = true) :
  Calls Tryz.prog 33 #[.string s,.int .i64 k] w fun e w'=>PiecePost k (pieceL (k == 0) ((bts s).drop k)) w e w':=by
 have hl:=bts_len s
 have HP:=Lib.hid (pc_close h0 h1 h2 h3)
 have hk2 : k + 2 ≤ s.size:=by
  have:=begL_len h3
  rw [List.length_drop,hl] at this
  simp at this
  omega
 have HX : k = 0 → Hid (BegC s 0 ⟨#[60,63,120,109,108]⟩ false):=fun e=>Lib.hid (by
  subst e
  exact beg_c (k:=0) (by omega) hs (by decide) (by cases hb : begL sXml (bts s) with | false=>exact hb | true=>exact absurd ⟨rfl,hb⟩ h0))
 have HC : Hid (BegC s k ⟨#[60,33,45,45]⟩ false):=Lib.hid (beg_c (by omega) hs (by decide) h1)
 have HD : Hid (BegC s k ⟨#[60,33,91,67,68,65,84,65,91]⟩ false):=Lib.hid (beg_c (by omega) hs (by decide) h2)
 have HS : Hid (BegC s k ⟨#[60,47]⟩ true):=Lib.hid (beg_c (by omega) hs (by decide) h3)
 have HK0:=Lib.hid (Box5.new w)
 have HB0 : Hid (Below w.heap.size w (w.alloc (.cells #[.int .i64 0,.string ⟨#[]⟩,.string ⟨#[]⟩,.slice none 0 0,.bool false] 73))):=Lib.hid ((Below.refl _ w).alloc (Nat.le_refl _) _)
 obtain ⟨L,hL⟩ : ∃ L,L = (bts s).drop (k + 2):=⟨_,rfl⟩
 have hd2 : ((bts s).drop k).drop 2 = L:=by rw [List.drop_drop,hL]
 obtain ⟨n,hn⟩ : ∃ n,n = nameN L:=⟨_,rfl⟩
 have hnl:=nameN_le L
 rw [← hn,hL,List.length_drop,hl] at hnl
 have HNM : Hid (∀ W,Calls Tryz.prog 67 #[.string s,.int .i64 ((k : Int) + 2)] W fun e w'=>e = .returned (.int .i64 (nameZ (k + 2) L)) ∧ Below W.heap.size W w'):=Lib.hid (fun W=>by
  have:=name3_any s (k + 2) W hk2 hs
  rw [← hL] at this
  exact this)
 cases hq : nameL (L.take n) with
 | false=>
  have hz : nameZ (k + 2) L = -1:=by unfold nameZ;rw [← hn,hq];simp
  rw [hz] at HNM
  have HA : Hid (pieceL (k == 0) ((bts s).drop k) = none):=Lib.hid (by rw [HP.out,close_none (by rw [hd2,← hn];exact hq)])
  clear h0 h1 h2 h3 hz hq hn hnl hd2 hL
  go_enter Tryz.func33,Tryz.ntmps33
  cases hkb : ((k : Int) == 0)
  case' true=>
   have HX:=HX (by simpa using hkb)
   go_wp2_with fail
   refine (HX.out _).mono ?_
   rintro e w2 ⟨rfl,rfl⟩
   go_wp2_with fail
  case' false=>go_wp2_with fail
  all_goals
   refine (HC.out _).mono ?_
   rintro e w2 ⟨rfl,rfl⟩
   go_wp2_with fail
   refine (HD.out _).mono ?_
   rintro e w2 ⟨rfl,rfl⟩
   go_wp2_with fail
   refine (HS.out _).mono ?_
   rintro e w2 ⟨rfl,rfl⟩
   go_wp2_with fail
   refine (HNM.out _).mono ?_
   rintro e w3 ⟨rfl,hb3⟩
   have HK3:=Lib.hid (HK0.out.below hb3)
   have HB3:=Lib.hid (th HB0.out (Nat.le_refl _) hb3)
   clear hb3
   obtain ⟨c0,c1,c2,c3,c4,f0,f1,f2,f3,f4⟩:=HK3.out.at
   go_wp2
   (try simp only [Exit.inBlock,Exit.then])
   refine ret_cell rfl rfl (HK3.out.set _ _ _ _ _) Tryz.underlying73 rfl (by kernel_rfl) rfl ?_
   exact ⟨set5_below HB3.out (Nat.le_refl _) _ _ _ _ _,.inr ⟨HA.out,rfl⟩⟩
 | true=>
  obtain ⟨E,hE⟩ : ∃ E,E = k + 2 + n:=⟨_,rfl⟩
  have hz : nameZ (k + 2) L = (E : Int):=by unfold nameZ;rw [← hn,hq,hE];simp
  rw [hz] at HNM
  have hEs : E ≤ s.size:=by omega
  have hkE : k + 2 ≤ E:=by omega
  have hkE2 : (k : Int) + 2 ≤ E:=by omega
  have hdE : L.drop n = (bts s).drop E:=by rw [hL,List.drop_drop,hE]
  obtain ⟨b,hb⟩ : ∃ b,b = blankN ((bts s).drop E):=⟨_,rfl⟩
  obtain ⟨G,hG⟩ : ∃ G,G = E + b:=⟨_,rfl⟩
  have hb1:=blankN_le ((bts s).drop E)
  rw [List.length_drop,hl,← hb] at hb1
  have hGs : G ≤ s.size:=by omega
  have hdG : ((bts s).drop E).drop b = (bts s).drop G:=by rw [List.drop_drop,hG]
  have HBK:=Lib.hid (fun W=>blanks_any s E W hEs hs)
  rw [← hb,← hG] at HBK
  cases hg : begL [62] ((bts s).drop G) with
  | false=>
   have HG : Hid (BegC s G ⟨#[62]⟩ false):=Lib.hid (beg_c hGs hs (by decide) hg)
   have HA : Hid (pieceL (k == 0) ((bts s).drop k) = none):=Lib.hid (by rw [HP.out,close_not (by rw [hd2,← hn];exact hq) (by rw [hd2,← hn,hdE,← hb,hdG];exact hg)])
   clear h0 h1 h2 h3 hz hq hn hnl hd2 hL hE hdE hb hG hb1 hdG hg
   go_enter Tryz.func33,Tryz.ntmps33
   cases hkb : ((k : Int) == 0)
   case' true=>
    have HX:=HX (by simpa using hkb)
    go_wp2_with fail
    refine (HX.out _).mono ?_
    rintro e w2 ⟨rfl,rfl⟩
    go_wp2_with fail
   case' false=>go_wp2_with fail
   all_goals
    refine (HC.out _).mono ?_
    rintro e w2 ⟨rfl,rfl⟩
    go_wp2_with fail
    refine (HD.out _).mono ?_
    rintro e w2 ⟨rfl,rfl⟩
    go_wp2_with fail
    refine (HS.out _).mono ?_
    rintro e w2 ⟨rfl,rfl⟩
    go_wp2_with fail
    refine (HNM.out _).mono ?_
    rintro e w3 ⟨rfl,hb3⟩
    have HK3:=Lib.hid (HK0.out.below hb3)
    have HB3:=Lib.hid (th HB0.out (Nat.le_refl _) hb3)
    clear hb3
    go_wp2_with fail
    refine (HBK.out _).mono ?_
    rintro e w2 ⟨rfl,rfl⟩
    go_wp2_with fail
    refine (HG.out _).mono ?_
    rintro e w2 ⟨rfl,rfl⟩
    obtain ⟨c0,c1,c2,c3,c4,f0,f1,f2,f3,f4⟩:=HK3.out.at
    go_wp2
    (try simp only [Exit.inBlock,Exit.then])
    refine ret_cell rfl rfl (HK3.out.set _ _ _ _ _) Tryz.underlying73 rfl (by kernel_rfl) rfl ?_
    exact ⟨set5_below HB3.out (Nat.le_refl _) _ _ _ _ _,.inr ⟨HA.out,rfl⟩⟩
  | true=>
   have HG : Hid (BegC s G ⟨#[62]⟩ true):=Lib.hid (beg_c hGs hs (by decide) hg)
   have HA : Hid (pieceL (k == 0) ((bts s).drop k) = some (⟨3,bts (s.extract (k + 2) E),[],[],false⟩,2 + n + b + 1)):=Lib.hid (by
    rw [HP.out,close_ok (by rw [hd2,← hn];exact hq) (by rw [hd2,← hn,hdE,← hb,hdG];exact hg),hd2,← hn,hdE,← hb,bts_extract,hL,List.take_drop,hE])
   have HI : Hid (((k + (2 + n + b + 1) : Nat) : Int) = (G : Int) + 1):=Lib.hid (by omega)
   clear h0 h1 h2 h3 hz hq hn hnl hd2 hL hE hdE hb hG hb1 hdG hg
   go_enter Tryz.func33,Tryz.ntmps33
   cases hkb : ((k : Int) == 0)
   case' true=>
    have HX:=HX (by simpa using hkb)
    go_wp2_with fail
    refine (HX.out _).mono ?_
    rintro e w2 ⟨rfl,rfl⟩
    go_wp2_with fail
   case' false=>go_wp2_with fail
   all_goals
    refine (HC.out _).mono ?_
    rintro e w2 ⟨rfl,rfl⟩
    go_wp2_with fail
    refine (HD.out _).mono ?_
    rintro e w2 ⟨rfl,rfl⟩
    go_wp2_with fail
    refine (HS.out _).mono ?_
    rintro e w2 ⟨rfl,rfl⟩
    go_wp2_with fail
    refine (HNM.out _).mono ?_
    rintro e w3 ⟨rfl,hb3⟩
    have HK3:=Lib.hid (HK0.out.below hb3)
    have HB3:=Lib.hid (th HB0.out (Nat.le_refl _) hb3)
    clear hb3
    go_wp2_with fail
    refine (HBK.out _).mono ?_
    rintro e w2 ⟨rfl,rfl⟩
    go_wp2_with fail
    refine (HG.out _).mono ?_
    rintro e w2 ⟨rfl,rfl⟩
    go_wp2_with fail
    obtain ⟨c0,c1,c2,c3,c4,f0,f1,f2,f3,f4⟩:=HK3.out.at
    have n1 : 0 ≤ (k : Int) + 2:=by omega
    have n2 : ((k : Int) + 2).toNat = k + 2:=by omega
    have w1 : IntKind.i64.wrap ((k : Int) + 2) = (k : Int) + 2:=wrap_small _ (by omega) (by omega)
    have w2 : IntKind.i64.wrap ((G : Int) + 1) = (G : Int) + 1:=wrap_small _ (by omega) (by omega)
    go_region_with (go_at_call 68;refine (HBK.out _).mono ?_;rintro e w2 ⟨rfl,rfl⟩)
    all_goals
     clear n1 n2 w1 w2
     (try go_wp2)
     (try simp only [Exit.inBlock,Exit.then])
     refine ret_cell rfl rfl ((Box5.drew HK3.out).set _ _ _ _ _) Tryz.underlying73 rfl (by kernel_rfl) rfl ?_
     refine ⟨set5_below HB3.out.drew (Nat.le_refl _) _ _ _ _ _,.inl ⟨_,_,.slice none 0 0,HA.out,?_,World.ownsRow_nil _ _ _ _⟩⟩
     unfold tokCells
     simp only [mk_bts,HI.out]
     rfl
set_option maxHeartbeats 4000000 in
set_option maxRecDepth 10000 in
theorem pieceText_any (s : ByteArray) (k : Nat) (w : World) (hk : k < s.size) (hs : s.size ≤ 100000) (h0 : ¬ ((k == 0) = true ∧ begL sXml ((bts s).drop k) = true)) (h1 : begL sCom ((bts s).drop k) = false) (h2 : begL sCd ((bts s).drop k) = false) (h3 : begL [60,47] ((bts s).drop k) = false) (h4 : begL [60] ((bts s).drop k) = false) :
  Calls Tryz.prog 33 #[.string s,.int .i64 k] w fun e w'=>PiecePost k (pieceL (k == 0) ((bts s).drop k)) w e w':=by
 have hl:=bts_len s
 have HP:=Lib.hid (pc_text h0 h1 h2 h3 h4)
 have HX : k = 0 → Hid (BegC s 0 ⟨#[60,63,120,109,108]⟩ false):=fun e=>Lib.hid (by
  subst e
  exact beg_c (k:=0) (by omega) hs (by decide) (by cases hb : begL sXml (bts s) with | false=>exact hb | true=>exact absurd ⟨rfl,hb⟩ h0))
 have HC : Hid (BegC s k ⟨#[60,33,45,45]⟩ false):=Lib.hid (beg_c (by omega) hs (by decide) h1)
 have HD : Hid (BegC s k ⟨#[60,33,91,67,68,65,84,65,91]⟩ false):=Lib.hid (beg_c (by omega) hs (by decide) h2)
 have HS : Hid (BegC s k ⟨#[60,47]⟩ false):=Lib.hid (beg_c (by omega) hs (by decide) h3)
 have HO : Hid (BegC s k ⟨#[60]⟩ false):=Lib.hid (beg_c (by omega) hs (by decide) h4)
 have HK0:=Lib.hid (Box5.new w)
 have HB0 : Hid (Below w.heap.size w (w.alloc (.cells #[.int .i64 0,.string ⟨#[]⟩,.string ⟨#[]⟩,.slice none 0 0,.bool false] 73))):=Lib.hid ((Below.refl _ w).alloc (Nat.le_refl _) _)
 obtain ⟨E,fz,hE,hEs,hkE,hfz⟩ : ∃ (E : Nat) (fz : Int),E = k + (findL [60] ((bts s).drop k)).getD ((bts s).drop k).length ∧ E ≤ s.size ∧ k ≤ E ∧ (foundZ k (findL [60] ((bts s).drop k)) = fz ∧ ((fz = -1 ∧ E = s.size) ∨ fz = E)):=by
  cases hf : findL [60] ((bts s).drop k) with
  | none=>exact ⟨s.size,-1,by rw [Option.getD_none,List.length_drop,hl];omega,by omega,by omega,rfl,.inl ⟨rfl,rfl⟩⟩
  | some e=>
   have hel:=findL_len hf
   rw [List.length_drop,hl] at hel
   exact ⟨k + e,((k + e : Nat) : Int),rfl,by omega,by omega,rfl,.inr rfl⟩
 obtain ⟨hfz,hfe⟩:=hfz
 have HF : Hid (FindC s k ⟨#[60]⟩ fz):=Lib.hid (find_c (by omega) hs (by decide) hfz)
 have hx : bts (s.extract k E) = ((bts s).drop k).take ((findL [60] ((bts s).drop k)).getD ((bts s).drop k).length):=by rw [bts_extract,List.take_drop,hE]
 obtain ⟨m,hm⟩ : ∃ m,m = (findL [60] ((bts s).drop k)).getD ((bts s).drop k).length:=⟨_,rfl⟩
 rw [← hm] at hx hE
 have hxs : (s.extract k E).size ≤ 100000:=by rw [ByteArray.size_extract];omega
 have HUR:=refUnescape_any (s.extract k E) (hs:=hxs)
 rw [hx] at HUR
 have HFE:=fun W=>find_any (s.extract k E) 0 ⟨#[93,93,62]⟩ W (by omega) hxs (by decide)
 rw [List.drop_zero,hx,show bts ⟨#[93,93,62]⟩ = sEnd from rfl] at HFE
 cases hu : unL [] (((bts s).drop k).take m) with
 | error z=>
  have HA : Hid (pieceL (k == 0) ((bts s).drop k) = none):=Lib.hid (by rw [HP.out,text_err hm hu])
  have hz:=unL_err hu
  rw [hu] at HUR
  simp only [unR] at HUR
  have HUN:=Lib.hid HUR
  clear h0 h1 h2 h3 h4 hu hE hfz hx hm hxs HUR HFE
  rcases hfe with ⟨rfl,rfl⟩ | rfl
  all_goals
   rcases hz with rfl | rfl
   all_goals
    go_enter Tryz.func33,Tryz.ntmps33
    cases hkb : ((k : Int) == 0)
    case' true=>
     have HX:=HX (by simpa using hkb)
     go_wp2_with fail
     refine (HX.out _).mono ?_
     rintro e w2 ⟨rfl,rfl⟩
     go_wp2_with fail
    case' false=>go_wp2_with fail
    all_goals
     refine (HC.out _).mono ?_
     rintro e w2 ⟨rfl,rfl⟩
     go_wp2_with fail
     refine (HD.out _).mono ?_
     rintro e w2 ⟨rfl,rfl⟩
     go_wp2_with fail
     refine (HS.out _).mono ?_
     rintro e w2 ⟨rfl,rfl⟩
     go_wp2_with fail
     refine (HO.out _).mono ?_
     rintro e w2 ⟨rfl,rfl⟩
     go_wp2_with fail
     refine (HF.out _).mono ?_
     rintro e w2 ⟨rfl,rfl⟩
     go_wp2_with fail
     refine (HUN.out _).mono ?_
     rintro e w3 ⟨rfl,hb3⟩
     have HK3:=Lib.hid (HK0.out.below hb3)
     have HB3:=Lib.hid (th HB0.out (Nat.le_refl _) hb3)
     clear hb3
     obtain ⟨c0,c1,c2,c3,c4,f0,f1,f2,f3,f4⟩:=HK3.out.at
     go_wp2
     (try simp only [Exit.inBlock,Exit.then])
     refine ret_cell rfl rfl (HK3.out.set _ _ _ _ _) Tryz.underlying73 rfl (by kernel_rfl) rfl ?_
     exact ⟨set5_below HB3.out (Nat.le_refl _) _ _ _ _ _,.inr ⟨HA.out,rfl⟩⟩
 | ok x=>
  rw [hu] at HUR
  simp only [unR] at HUR
  have HUN:=Lib.hid HUR
  cases hg : findL sEnd (((bts s).drop k).take m) with
  | some e2=>
   have HA : Hid (pieceL (k == 0) ((bts s).drop k) = none):=Lib.hid (by rw [HP.out,text_not hm hu (by rw [hg];simp)])
   have HG : Hid (FindC (s.extract k E) 0 ⟨#[93,93,62]⟩ (e2 : Int)):=Lib.hid (fun W=>by
    have:=HFE W
    rw [hg] at this
    simp only [foundZ,Nat.zero_add] at this
    exact this)
   clear h0 h1 h2 h3 h4 hu hE hfz hx hm hxs HUR HFE hg
   rcases hfe with ⟨rfl,rfl⟩ | rfl
   all_goals
    go_enter Tryz.func33,Tryz.ntmps33
    cases hkb : ((k : Int) == 0)
    case' true=>
     have HX:=HX (by simpa using hkb)
     go_wp2_with fail
     refine (HX.out _).mono ?_
     rintro e w2 ⟨rfl,rfl⟩
     go_wp2_with fail
    case' false=>go_wp2_with fail
    all_goals
     refine (HC.out _).mono ?_
     rintro e w2 ⟨rfl,rfl⟩
     go_wp2_with fail
     refine (HD.out _).mono ?_
     rintro e w2 ⟨rfl,rfl⟩
     go_wp2_with fail
     refine (HS.out _).mono ?_
     rintro e w2 ⟨rfl,rfl⟩
     go_wp2_with fail
     refine (HO.out _).mono ?_
     rintro e w2 ⟨rfl,rfl⟩
     go_wp2_with fail
     refine (HF.out _).mono ?_
     rintro e w2 ⟨rfl,rfl⟩
     go_wp2_with fail
     refine (HUN.out _).mono ?_
     rintro e w3 ⟨rfl,hb3⟩
     have HK3:=Lib.hid (HK0.out.below hb3)
     have HB3:=Lib.hid (th HB0.out (Nat.le_refl _) hb3)
     clear hb3
     go_wp2_with fail
     refine (HG.out _).mono ?_
     rintro e w2 ⟨rfl,rfl⟩
     obtain ⟨c0,c1,c2,c3,c4,f0,f1,f2,f3,f4⟩:=HK3.out.at
     go_wp2
     (try simp only [Exit.inBlock,Exit.then])
     refine ret_cell rfl rfl (HK3.out.set _ _ _ _ _) Tryz.underlying73 rfl (by kernel_rfl) rfl ?_
     exact ⟨set5_below HB3.out (Nat.le_refl _) _ _ _ _ _,.inr ⟨HA.out,rfl⟩⟩
  | none=>
   have HA : Hid (pieceL (k == 0) ((bts s).drop k) = some (⟨4,[],x,[],false⟩,m)):=Lib.hid (by rw [HP.out,text_ok hm hu hg])
   have HG : Hid (FindC (s.extract k E) 0 ⟨#[93,93,62]⟩ (-1)):=Lib.hid (fun W=>by
    have:=HFE W
    rw [hg] at this
    exact this)
   have HI : Hid (((k + m : Nat) : Int) = (E : Int)):=Lib.hid (by omega)
   clear h0 h1 h2 h3 h4 hu hE hfz hx hm hxs HUR HFE hg
   rcases hfe with ⟨rfl,rfl⟩ | rfl
   all_goals
    go_enter Tryz.func33,Tryz.ntmps33
    cases hkb : ((k : Int) == 0)
    case' true=>
     have HX:=HX (by simpa using hkb)
     go_wp2_with fail
     refine (HX.out _).mono ?_
     rintro e w2 ⟨rfl,rfl⟩
     go_wp2_with fail
    case' false=>go_wp2_with fail
    all_goals
     refine (HC.out _).mono ?_
     rintro e w2 ⟨rfl,rfl⟩
     go_wp2_with fail
     refine (HD.out _).mono ?_
     rintro e w2 ⟨rfl,rfl⟩
     go_wp2_with fail
     refine (HS.out _).mono ?_
     rintro e w2 ⟨rfl,rfl⟩
     go_wp2_with fail
     refine (HO.out _).mono ?_
     rintro e w2 ⟨rfl,rfl⟩
     go_wp2_with fail
     refine (HF.out _).mono ?_
     rintro e w2 ⟨rfl,rfl⟩
     go_wp2_with fail
     refine (HUN.out _).mono ?_
     rintro e w3 ⟨rfl,hb3⟩
     have HK3:=Lib.hid (HK0.out.below hb3)
     have HB3:=Lib.hid (th HB0.out (Nat.le_refl _) hb3)
     clear hb3
     go_wp2_with fail
     refine (HG.out _).mono ?_
     rintro e w2 ⟨rfl,rfl⟩
     obtain ⟨c0,c1,c2,c3,c4,f0,f1,f2,f3,f4⟩:=HK3.out.at
     go_wp2
     (try simp only [Exit.inBlock,Exit.then])
     refine ret_cell rfl rfl (HK3.out.set _ _ _ _ _) Tryz.underlying73 rfl (by kernel_rfl) rfl ?_
     refine ⟨set5_below HB3.out (Nat.le_refl _) _ _ _ _ _,.inl ⟨_,_,.slice none 0 0,HA.out,?_,World.ownsRow_nil _ _ _ _⟩⟩
     unfold tokCells
     rw [HI.out]
     rfl
set_option maxHeartbeats 4000000 in
set_option maxRecDepth 10000 in
theorem pieceOpen_any (s : ByteArray) (k : Nat) (w : World) (hk : k < s.size) (hs : s.size ≤ 100000) (h0 : ¬ ((k == 0) = true ∧ begL sXml ((bts s).drop k) = true)) (h1 : begL sCom ((bts s).drop k) = false) (h2 : begL sCd ((bts s).drop k) = false) (h3 : begL [60,47] ((bts s).drop k) = false) (h4 : begL [60] ((bts s).drop k) = true) :
  Calls Tryz.prog 33 #[.string s,.int .i64 k] w fun e w'=>PiecePost k (pieceL (k == 0) ((bts s).drop k)) w e w':=by
 have hl:=bts_len s
 have HP:=Lib.hid (pc_open h0 h1 h2 h3 h4)
 have HX : k = 0 → Hid (BegC s 0 ⟨#[60,63,120,109,108]⟩ false):=fun e=>Lib.hid (by
  subst e
  exact beg_c (k:=0) (by omega) hs (by decide) (by cases hb : begL sXml (bts s) with | false=>exact hb | true=>exact absurd ⟨rfl,hb⟩ h0))
 have HC : Hid (BegC s k ⟨#[60,33,45,45]⟩ false):=Lib.hid (beg_c (by omega) hs (by decide) h1)
 have HD : Hid (BegC s k ⟨#[60,33,91,67,68,65,84,65,91]⟩ false):=Lib.hid (beg_c (by omega) hs (by decide) h2)
 have HS : Hid (BegC s k ⟨#[60,47]⟩ false):=Lib.hid (beg_c (by omega) hs (by decide) h3)
 have HO : Hid (BegC s k ⟨#[60]⟩ true):=Lib.hid (beg_c (by omega) hs (by decide) h4)
 have HOP:=Lib.hid (fun W=>open_any s k W hk hs)
 clear h0 h1 h2 h3 h4
 have HK0:=Lib.hid (Box5.new w)
 have HB0 : Hid (Below w.heap.size w (w.alloc (.cells #[.int .i64 0,.string ⟨#[]⟩,.string ⟨#[]⟩,.slice none 0 0,.bool false] 73))):=Lib.hid ((Below.refl _ w).alloc (Nat.le_refl _) _)
 go_enter Tryz.func33,Tryz.ntmps33
 cases hkb : ((k : Int) == 0)
 case' true=>
  have HX:=HX (by simpa using hkb)
  go_wp2_with fail
  refine (HX.out _).mono ?_
  rintro e w2 ⟨rfl,rfl⟩
  go_wp2_with fail
 case' false=>go_wp2_with fail
 all_goals
  refine (HC.out _).mono ?_
  rintro e w2 ⟨rfl,rfl⟩
  go_wp2_with fail
  refine (HD.out _).mono ?_
  rintro e w2 ⟨rfl,rfl⟩
  go_wp2_with fail
  refine (HS.out _).mono ?_
  rintro e w2 ⟨rfl,rfl⟩
  go_wp2_with fail
  refine (HO.out _).mono ?_
  rintro e w2 ⟨rfl,rfl⟩
  go_wp2_with fail
  refine (HOP.out _).mono ?_
  rintro e w3 ⟨hb3,⟨t,n,v,ho,rfl,hv⟩ | ⟨ho,rfl⟩⟩
  ·obtain ⟨va,vc,rfl⟩:=own_slice hv
   have HA : Hid (pieceL (k == 0) ((bts s).drop k) = some (t,n)):=Lib.hid (by rw [HP.out,ho])
   have HK3:=Lib.hid (HK0.out.below hb3)
   have HB3:=Lib.hid (th HB0.out (Nat.le_refl _) hb3)
   have HV:=Lib.hid hv
   clear hb3 hv ho
   unfold tokCells
   obtain ⟨c0,c1,c2,c3,c4,f0,f1,f2,f3,f4⟩:=HK3.out.at
   go_wp2
   (try simp only [Exit.inBlock,Exit.then])
   refine ret_cell rfl rfl (HK3.out.set _ _ _ _ _) Tryz.underlying73 rfl (by kernel_rfl) rfl ?_
   exact ⟨set5_below HB3.out (Nat.le_refl _) _ _ _ _ _,.inl ⟨_,_,_,HA.out,rfl,own_mono (own_set5 HV.out (by simp) _ _ _ _ _) (by simp)⟩⟩
  ·have HA : Hid (pieceL (k == 0) ((bts s).drop k) = none):=Lib.hid (by rw [HP.out,ho])
   have HK3:=Lib.hid (HK0.out.below hb3)
   have HB3:=Lib.hid (th HB0.out (Nat.le_refl _) hb3)
   clear hb3 ho
   unfold tokCells
   obtain ⟨c0,c1,c2,c3,c4,f0,f1,f2,f3,f4⟩:=HK3.out.at
   go_wp2
   (try simp only [Exit.inBlock,Exit.then])
   refine ret_cell rfl rfl (HK3.out.set _ _ _ _ _) Tryz.underlying73 rfl (by kernel_rfl) rfl ?_
   exact ⟨set5_below HB3.out (Nat.le_refl _) _ _ _ _ _,.inr ⟨HA.out,rfl⟩⟩
set_option maxHeartbeats 4000000 in
set_option maxRecDepth 10000 in
theorem pieceCd_any (s : ByteArray) (k : Nat) (w : World) (hk : k < s.size) (hs : s.size ≤ 100000) (h0 : ¬ ((k == 0) = true ∧ begL sXml ((bts s).drop k) = true)) (h1 : begL sCom ((bts s).drop k) = false) (h2 : begL sCd ((bts s).drop k) = true) :
  Calls Tryz.prog 33 #[.string s,.int .i64 k] w fun e w'=>PiecePost k (pieceL (k == 0) ((bts s).drop k)) w e w':=by
 have hl:=bts_len s
 have HP:=Lib.hid (pc_cd h0 h1 h2)
 have hk9 : k + 9 ≤ s.size:=by
  have:=begL_len h2
  rw [List.length_drop,hl] at this
  simp [sCd] at this
  omega
 have HX : k = 0 → Hid (BegC s 0 ⟨#[60,63,120,109,108]⟩ false):=fun e=>Lib.hid (by
  subst e
  exact beg_c (k:=0) (by omega) hs (by decide) (by cases hb : begL sXml (bts s) with | false=>exact hb | true=>exact absurd ⟨rfl,hb⟩ h0))
 have HC : Hid (BegC s k ⟨#[60,33,45,45]⟩ false):=Lib.hid (beg_c (by omega) hs (by decide) h1)
 have HD : Hid (BegC s k ⟨#[60,33,91,67,68,65,84,65,91]⟩ true):=Lib.hid (beg_c (by omega) hs (by decide) h2)
 have hd9 : ((bts s).drop k).drop 9 = (bts s).drop (k + 9):=by rw [List.drop_drop]
 cases hf : findL sEnd ((bts s).drop (k + 9)) with
 | none=>
  have HF : Hid (FindC s ((k : Int) + 9) ⟨#[93,93,62]⟩ (-1)):=Lib.hid (find_c (k:=k + 9) hk9 hs (by decide) (by rw [show bts ⟨#[93,93,62]⟩ = sEnd from rfl,hf];rfl))
  have HA : Hid (pieceL (k == 0) ((bts s).drop k) = none):=Lib.hid (by rw [HP.out,cd_none (by rw [hd9];exact hf)])
  clear h0 h1 h2 hf hd9
  go_enter Tryz.func33,Tryz.ntmps33
  cases hkb : ((k : Int) == 0)
  case' true=>
   have HX:=HX (by simpa using hkb)
   go_wp2_with fail
   refine (HX.out _).mono ?_
   rintro e w2 ⟨rfl,rfl⟩
   go_wp2_with fail
  case' false=>go_wp2_with fail
  all_goals
   refine (HC.out _).mono ?_
   rintro e w2 ⟨rfl,rfl⟩
   go_wp2_with fail
   refine (HD.out _).mono ?_
   rintro e w2 ⟨rfl,rfl⟩
   go_wp2_with fail
   refine (HF.out _).mono ?_
   rintro e w2 ⟨rfl,rfl⟩
   go_wp2
   (try simp only [Exit.inBlock,Exit.then])
   refine ret_cell rfl rfl (Box5.made _ _ _ _ _) Tryz.underlying73 rfl (by kernel_rfl) rfl ?_
   exact ⟨(Below.refl _ w).alloc (Nat.le_refl _) _,.inr ⟨HA.out,rfl⟩⟩
 | some e=>
  have hel:=findL_len hf
  rw [List.length_drop,hl] at hel
  simp only [sEnd,List.length_cons,List.length_nil] at hel
  obtain ⟨E,hE⟩ : ∃ E,E = k + 9 + e:=⟨_,rfl⟩
  have hEs : E < s.size:=by omega
  have hkE : k + 9 ≤ E:=by omega
  have hkE2 : (k : Int) + 9 ≤ E:=by omega
  have HF : Hid (FindC s ((k : Int) + 9) ⟨#[93,93,62]⟩ E):=Lib.hid (find_c (k:=k + 9) hk9 hs (by decide) (by rw [show bts ⟨#[93,93,62]⟩ = sEnd from rfl,hf,hE];rfl))
  have HA : Hid (pieceL (k == 0) ((bts s).drop k) = some (⟨4,[],bts (s.extract (k + 9) E),[],false⟩,e + 12)):=Lib.hid (by
   rw [HP.out,cd_ok (by rw [hd9];exact hf),hd9,bts_extract,List.take_drop,hE])
  have HI : Hid (((k + (e + 12) : Nat) : Int) = (E : Int) + 3):=Lib.hid (by omega)
  clear h0 h1 h2 hf hd9 hE hel
  go_enter Tryz.func33,Tryz.ntmps33
  cases hkb : ((k : Int) == 0)
  case' true=>
   have HX:=HX (by simpa using hkb)
   go_wp2_with fail
   refine (HX.out _).mono ?_
   rintro e w2 ⟨rfl,rfl⟩
   go_wp2_with fail
  case' false=>go_wp2_with fail
  all_goals
   refine (HC.out _).mono ?_
   rintro e w2 ⟨rfl,rfl⟩
   go_wp2_with fail
   refine (HD.out _).mono ?_
   rintro e w2 ⟨rfl,rfl⟩
   go_wp2_with fail
   refine (HF.out _).mono ?_
   rintro e w2 ⟨rfl,rfl⟩
   go_wp2
   (try simp only [Exit.inBlock,Exit.then])
   refine ret_cell rfl rfl (Box5.made _ _ _ _ _) Tryz.underlying73 rfl (by kernel_rfl) rfl ?_
   refine ⟨(Below.refl _ w).alloc (Nat.le_refl _) _,.inl ⟨_,_,.slice none 0 0,HA.out,?_,World.ownsRow_nil _ _ _ _⟩⟩
   unfold tokCells
   simp only [mk_bts,HI.out]
   rfl
theorem piece_any (s : ByteArray) (k : Nat) (w : World) (hk : k < s.size) (hs : s.size ≤ 100000) :
  Calls Tryz.prog 33 #[.string s,.int .i64 k] w fun e w'=>PiecePost k (pieceL (k == 0) ((bts s).drop k)) w e w':=by
 by_cases h0 : (k == 0) = true ∧ begL sXml ((bts s).drop k) = true
 ·obtain ⟨h1,h2⟩:=h0
  obtain rfl : k = 0:=by simpa using h1
  exact pieceDec_any s w hk hs h2
 cases h1 : begL sCom ((bts s).drop k) with
 | true=>exact pieceCom_any s k w hk hs h0 h1
 | false=>
  cases h2 : begL sCd ((bts s).drop k) with
  | true=>exact pieceCd_any s k w hk hs h0 h1 h2
  | false=>
   cases h3 : begL [60,47] ((bts s).drop k) with
   | true=>exact pieceClose_any s k w hk hs h0 h1 h2 h3
   | false=>
    cases h4 : begL [60] ((bts s).drop k) with
    | true=>exact pieceOpen_any s k w hk hs h0 h1 h2 h3 h4
    | false=>exact pieceText_any s k w hk hs h0 h1 h2 h3 h4
theorem TokRow.below {w w' : World} {base : Nat} {v : Value} {l : List (Tok × Value)} (h : TokRow w base v l) (hb : Below w.heap.size w w') : TokRow w' base v l:=
 ⟨ownBelow h.1 hb,fun x hx=>ownBelow (h.2 x hx) hb⟩
theorem TokRow.more {w w' : World} {base : Nat} {v v' : Value} {l : List (Tok × Value)} {x : Tok × Value} (h : TokRow w base v l) (hx : w.ownsRow base 82 2 x.2 x.1.attrs.length (attrCells x.1.attrs))
  (h1 : w'.ownsRow base 73 5 v' (l.length + 1) (tvCells l ++ (tokCells x.1 x.2).toList)) (hg : w.grownBy w' v.ownBlock) : TokRow w' base v' (l ++ [x]):=by
 refine ⟨?_,fun y hy=>?_⟩
 ·rw [List.length_append,List.length_singleton,show tvCells (l ++ [x]) = tvCells l ++ (tokCells x.1 x.2).toList by unfold tvCells;rw [List.flatMap_append];simp]
  exact h1
 ·rcases List.mem_append.1 hy with h2 | h2
  ·exact (h.2 y h2).kept hg (own_ne (h.2 y h2) h.1 (by decide))
  ·obtain rfl:=List.mem_singleton.1 h2
   exact hx.kept hg (own_ne hx h.1 (by decide))
theorem infoT : (Tryz.prog.info? 73).map (fun i=>(i.zero,i.size,i.bytes)) = some (some (.agg #[.int .i64 0,.string ⟨#[]⟩,.string ⟨#[]⟩,.slice none 0 0,.bool false]),5,72):=by kernel_rfl
set_option maxHeartbeats 4000000 in
set_option maxRecDepth 10000 in
theorem all3_any (s : ByteArray) (w : World) (hs : s.size ≤ 100000) (hw : Whole (bts s)) (h13 : ∀ b ∈ bts s,b ≠ 13) :
  Calls Tryz.prog 12 #[.string s] w fun e w'=>AllPost3 (allL3 (bts s)) w e w':=by
 have hl:=bts_len s
 have HIT:=Lib.hid infoT
 have H13:=Lib.hid h13
 have HW:=Lib.hid hw
 clear h13 hw
 go_enter Tryz.func12,Tryz.ntmps12
 go_wp2_with fail
 go_loopw [4,5] (fun v i wr=>∃ (p f : Nat) (l : List (Tok × Value)),p ≤ s.size ∧ s.size - p ≤ f ∧ i = .int .i64 p ∧ l.length ≤ p ∧ Hid (Whole ((bts s).drop p)) ∧ Hid (allL3 (bts s) = allA f p (l.map (·.1)) ((bts s).drop p)) ∧ Hid (TokRow wr w.heap.size v l) ∧ Hid (Below w.heap.size w wr)) (fun _ i _=>s.size - (intOf i).toNat)
 case atStart=>exact ⟨0,s.size,[],by omega,by omega,rfl,by simp,HW,Lib.hid (by unfold allL3;rw [hl];rfl),Lib.hid ⟨World.ownsRow_nil _ _ _ _,fun x hx=>by cases hx⟩,Lib.hid (Below.refl _ _)⟩
 case round=>
  obtain ⟨p,f,l,hp,hf,rfl,hll,HWP,HA,HT,HB⟩:=hrel
  by_cases hlt : p < s.size
  ·obtain ⟨f,rfl⟩ : ∃ g,f = g + 1:=⟨f - 1,by omega⟩
   have hne : (bts s).drop p ≠ []:=by rw [bts_drop s p hlt];simp
   have h13p : ∀ b ∈ (bts s).drop p,b ≠ 13:=fun b hb=>H13.out b (List.mem_of_mem_drop hb)
   have HPC:=Lib.hid (fun W=>piece_any s p W hlt hs)
   have HST:=Lib.hid (allA_cons (f:=f) (p:=p) (acc:=l.map (·.1)) hne)
   cases hpc : pieceL (p == 0) ((bts s).drop p) with
   | none=>
    have HC : Hid (∀ W,Calls Tryz.prog 33 #[.string s,.int .i64 p] W fun e w'=>Below W.heap.size W w' ∧ e = .returned (.tuple #[.agg #[.int .i64 0,.string ⟨#[]⟩,.string ⟨#[]⟩,.slice none 0 0,.bool false],.int .i64 (-1)])):=Lib.hid (fun W=>(HPC.out W).mono (by
     rintro e w' ⟨h1,⟨_,_,_,h2,_⟩ | ⟨_,h2⟩⟩
     ·rw [hpc] at h2;cases h2
     ·exact ⟨h1,h2⟩))
    have HE : Hid (allL3 (bts s) = .error p):=Lib.hid (by rw [HA.out,HST.out,hpc])
    clear hne h13p hpc
    go_wp2_with fail
    refine (HC.out _).mono ?_
    rintro e w2 ⟨hb2,rfl⟩
    have HB2:=Lib.hid (al (th HB.out (Nat.le_refl _) hb2) (Nat.le_refl _) (.cells #[.int .i64 0,.string ⟨#[]⟩,.string ⟨#[]⟩,.slice none 0 0,.bool false] 73))
    clear hb2
    go_wp2
    go_ret2
    exact ⟨HB2.out,.inr ⟨p,HE.out,rfl⟩⟩
   | some y=>
    obtain ⟨t,n⟩:=y
    obtain ⟨_,hn1,hn2,_,hwn⟩:=piece_ok HWP.out h13p hne hpc
    rw [List.length_drop,hl] at hn2
    rw [List.drop_drop] at hwn
    obtain ⟨q,hq⟩ : ∃ q,q = p + n:=⟨_,rfl⟩
    have HC : Hid (∀ W,Calls Tryz.prog 33 #[.string s,.int .i64 p] W fun e w'=>Below W.heap.size W w' ∧ ∃ va vc,e = .returned (.tuple #[.agg #[.int .i64 t.kind,.string ⟨t.name.toArray⟩,.string ⟨t.text.toArray⟩,.slice va t.attrs.length vc,.bool t.empty],.int .i64 q]) ∧ w'.ownsRow W.heap.size 82 2 (.slice va t.attrs.length vc) t.attrs.length (attrCells t.attrs)):=Lib.hid (fun W=>(HPC.out W).mono (by
     rintro e w' ⟨h1,⟨t',n',v',h2,h3,h4⟩ | ⟨h2,_⟩⟩
     ·rw [hpc] at h2
      obtain ⟨rfl,rfl⟩:=Prod.mk.inj (Option.some.inj h2)
      obtain ⟨va,vc,rfl⟩:=own_slice h4
      exact ⟨h1,va,vc,by rw [h3,hq];rfl,h4⟩
     ·rw [hpc] at h2;cases h2))
    rw [← hq] at hwn
    have HWN:=Lib.hid hwn
    have HE : Hid (allL3 (bts s) = allA f q (l.map (·.1) ++ [t]) ((bts s).drop q)):=Lib.hid (by rw [HA.out,HST.out,hpc];simp only [List.drop_drop,← hq])
    have hqs : q ≤ s.size:=by omega
    have hpq : p < q:=by omega
    have hqn : ¬ ((q : Int) < 0):=by omega
    clear hne h13p hpc hwn hn1 hn2 hq
    go_wp2_with fail
    refine (HC.out _).mono ?_
    rintro e w2 ⟨hb2,va,vc,rfl,hrow⟩
    have HT2:=Lib.hid ((HT.out.below hb2).below ((Below.refl _ w2).alloc (Nat.le_refl _) (.cells #[.int .i64 t.kind,.string ⟨t.name.toArray⟩,.string ⟨t.text.toArray⟩,.slice va t.attrs.length vc,.bool t.empty] 73)))
    have HB2:=Lib.hid (al (th HB.out (Nat.le_refl _) hb2) (Nat.le_refl _) (.cells #[.int .i64 t.kind,.string ⟨t.name.toArray⟩,.string ⟨t.text.toArray⟩,.slice va t.attrs.length vc,.bool t.empty] 73))
    have HR2:=Lib.hid ((own_mono hrow HB.out.size).alloc (.cells #[.int .i64 t.kind,.string ⟨t.name.toArray⟩,.string ⟨t.text.toArray⟩,.slice va t.attrs.length vc,.bool t.empty] 73))
    have HK2:=Lib.hid (Box5.made t.kind ⟨t.name.toArray⟩ ⟨t.text.toArray⟩ (.slice va t.attrs.length vc) w2 (em:=t.empty))
    clear hb2 hrow
    obtain ⟨c0,c1,c2,c3,c4,_⟩:=HK2.out.at
    obtain ⟨i0,hi,hz0,hz1,hz2⟩:=info_parts HIT.out
    have HN2:=Lib.hid (cell_five_new (w2.alloc (.cells #[.int .i64 t.kind,.string ⟨t.name.toArray⟩,.string ⟨t.text.toArray⟩,.slice va t.attrs.length vc,.bool t.empty] 73)) (.int .i64 t.kind) (.string ⟨t.name.toArray⟩) (.string ⟨t.text.toArray⟩) (.slice va t.attrs.length vc) (.bool t.empty) 73)
    rw [show (w2.alloc (.cells #[.int .i64 t.kind,.string ⟨t.name.toArray⟩,.string ⟨t.text.toArray⟩,.slice va t.attrs.length vc,.bool t.empty] 73)).heap.size = w2.heap.size + 1 by simp] at HN2
    go_wp2_with (at_builtin;go_loud (refine wpList_append_own _ rfl _ _ 35 rfl w.heap.size 73 i0 (.agg #[.int .i64 0,.string ⟨#[]⟩,.string ⟨#[]⟩,.slice none 0 0,.bool false]) 5 72 Tryz.underlying35 hi hz0 hz1 hz2 rfl (by decide) _ _ _ rfl (HT2.out.1.alloc _) ⟨w2.heap.size + 1,0,none⟩ 1 1 [.int .i64 t.kind,.string ⟨t.name.toArray⟩,.string ⟨t.text.toArray⟩,.slice va t.attrs.length vc,.bool t.empty] rfl rfl HN2.out (by simp [Value.oneCell']) (by unfold maxLen;omega) (by omega) (by have:=HB2.out.size;simp at this ⊢;omega) ?_);intro v5 w5 hown5 hgrow5 _)
    refine ⟨⟨q,f,l ++ [(t,.slice va t.attrs.length vc)],hqs,by omega,rfl,by simp;omega,HWN,?_,?_,?_⟩,by show s.size - ((q : Int)).toNat < s.size - ((p : Int)).toNat;omega⟩
    ·exact Lib.hid (by rw [HE.out,List.map_append];rfl)
    ·exact Lib.hid ((HT2.out.below ((Below.refl _ _).alloc (Nat.le_refl _) _)).more (HR2.out.alloc _) hown5 hgrow5)
    ·exact Lib.hid (Below.grown (al HB2.out (Nat.le_refl _) _) hgrow5 (by have:=HB2.out.size;simp at this ⊢;omega) (fun k e=>(HT2.out.1.lt k e).1))
  ·obtain rfl : p = s.size:=by omega
   have HE : Hid (allL3 (bts s) = .ok (l.map (·.1))):=Lib.hid (by
    rw [HA.out,List.drop_of_length_le (by omega)]
    cases f <;> rfl)
   go_wp2
   go_ret2
   exact ⟨HB.out,.inl ⟨_,l,HE.out,rfl,HT.out⟩⟩
theorem lines_keep {c : UInt8} {t : List UInt8} (h : c ≠ 13) : linesL (c :: t) = c :: linesL t:=by simp only [linesL];rw [if_neg h]
theorem lines_both {c : UInt8} {t : List UInt8} (h : c = 13) (h2 : t.head? = some 10) : linesL (c :: t) = linesL t:=by simp only [linesL];rw [if_pos h,if_pos h2]
theorem lines_one {c : UInt8} {t : List UInt8} (h : c = 13) (h2 : t.head? ≠ some 10) : linesL (c :: t) = 10 :: linesL t:=by simp only [linesL];rw [if_pos h,if_neg h2]
set_option maxRecDepth 20000 in
set_option maxHeartbeats 2000000 in
theorem lines_any (a : Option Addr) (len cap : Nat) (l : List UInt8) (w : World) (hz : Byt w a len cap (ints l)) (hlen : len ≤ 100000) :
  Calls Tryz.prog 13 #[.slice a len cap] w fun e w'=>e = .returned (.string ⟨(linesL l).toArray⟩) ∧ Below w.heap.size w w':=by
 have hcap:=hz.leCap
 have hll : l.length = len:=by have:=hz.eqLen;unfold ints at this;rw [List.length_map] at this;omega
 obtain ⟨i0,hi,hz0,hz1,hz2⟩:=info_parts info5
 obtain ⟨b,off,hab,hcell⟩ : ∃ b off,(0 < len → a = some ⟨b,off,none⟩) ∧ ∀ i (h : i < l.length),w.cell? ⟨b,off + i,none⟩ = some (.int .u8 ((l[i]'h).toNat : Int)):=by
  by_cases h0 : 0 < len
  ·obtain ⟨b,off,h1,h2⟩:=hz.cells h0
   refine ⟨b,off,fun _=>h1,fun i hi=>?_⟩
   rw [h2 i (by omega)]
   unfold ints
   rw [List.getElem?_map,List.getElem?_eq_getElem hi]
   rfl
  ·exact ⟨0,0,fun h=>absurd h h0,fun i hi=>absurd hi (by omega)⟩
 have hbB : 0 < len → b < w.heap.size:=fun h=>by have:=block_lt_of_cell (hcell 0 (by omega));simpa using this
 have HAB:=Lib.hid hab
 have HC:=Lib.hid hcell
 have HBB:=Lib.hid hbB
 have HLL:=Lib.hid hll
 clear hz hab hcell hbB hll
 go_enter Tryz.func13,Tryz.ntmps13
 go_wp2_with fail
 go_loopw [3,4] (fun v i wr=>∃ (p : Nat) (pre : List UInt8),p ≤ len ∧ i = .int .i64 p ∧ pre.length ≤ p ∧ Hid (pre ++ linesL (l.drop p) = linesL l) ∧ Hid (wr.ownsRow w.heap.size 5 1 v pre.length (Lib.byteCells pre)) ∧ Hid (Below w.heap.size w wr))
  (fun _ i _=>len - (intOf i).toNat)
 case atStart=>exact ⟨0,[],by omega,rfl,by simp,Lib.hid rfl,Lib.hid (World.ownsRow_nil _ _ _ _),Lib.hid (Below.refl _ _)⟩
 case round=>
  obtain ⟨p,pre,hp,rfl,hpl,HF,HO,HB⟩:=hrel
  by_cases hlt : p < len
  ·obtain rfl:=HAB.out (by omega)
   have hpl2 : p < l.length:=by rw [HLL.out];exact hlt
   have hd : l.drop p = l[p] :: l.drop (p + 1):=List.drop_eq_getElem_cons hpl2
   have hcl : ∀ i (h : i < l.length),wr.cell? ⟨b,off + i,none⟩ = some (.int .u8 ((l[i]'h).toNat : Int)):=fun i h=>(HB.out.cell (p:=⟨b,off + i,none⟩) (HBB.out (by omega))).trans (HC.out i h)
   have c0:=hcl p hpl2
   have hB1 : (l[p]'hpl2).toNat < 256:=UInt8.toNat_lt _
   by_cases h13 : (l[p]'hpl2).toNat = 13
   ·have hc13 : l[p] = 13:=UInt8.toNat.inj h13
    have hb13 : ((((l[p]'hpl2).toNat : Int)) == 13) = true:=by rw [h13];rfl
    by_cases hnx : p + 1 < len
    ·have hpn : p + 1 < l.length:=by rw [HLL.out];exact hnx
     have c1 : wr.cell? ⟨b,off + (p + 1),none⟩ = some (.int .u8 ((l[p + 1]'hpn).toNat : Int)):=hcl (p + 1) hpn
     have hh : (l.drop (p + 1)).head? = some (l[p + 1]'hpn):=by rw [List.drop_eq_getElem_cons hpn];rfl
     have hnx2 : ¬ ((len : Int) ≤ (p : Int) + 1):=by omega
     by_cases h10 : (l[p + 1]'hpn).toNat = 10
     ·have hb10 : ((((l[p + 1]'hpn).toNat : Int)) == 10) = true:=by rw [h10];rfl
      have HN : Hid (pre ++ linesL (l.drop (p + 1)) = linesL l):=Lib.hid (by rw [← HF.out,hd,lines_both hc13 (by rw [hh];congr 1;exact UInt8.toNat.inj h10)])
      clear hd hcl h13 hc13 hh h10
      go_wp2
      all_goals (try (exfalso;simp_all;done))
      exact ⟨⟨p + 1,pre,by omega,by go_num,by omega,HN,HO,HB⟩,by simp [intOf];omega⟩
     ·have hb10 : ((((l[p + 1]'hpn).toNat : Int)) == 10) = false:=by rw [beq_eq_false_iff_ne];omega
      have HN : Hid ((pre ++ [10]) ++ linesL (l.drop (p + 1)) = linesL l):=Lib.hid (by
       rw [← HF.out,hd,lines_one hc13 (by rw [hh];intro e;exact h10 (by rw [Option.some.inj e];rfl)),List.append_assoc];rfl)
      clear hd hcl h13 hc13 hh h10
      go_wp2_with (at_builtin;refine wpList_append_own _ rfl _ _ 22 rfl w.heap.size 5 i0 (.int .u8 0) 1 1 Tryz.underlying22 hi hz0 hz1 hz2 rfl (by decide) _ _ _ rfl (HO.out.alloc _) ⟨wr.heap.size,0,none⟩ 1 1 [.int .u8 10] rfl rfl (cell_one_new _ _ _) (by simp [Value.oneCell']) (by unfold maxLen;omega) (by omega) (by have:=HB.out.size;simp;omega) ?_;intro v3 w3 hown3 hgrow3 _)
      all_goals (try (exfalso;simp_all;done))
      exact ⟨⟨p + 1,pre ++ [10],by omega,by go_num,by simp;omega,HN,Lib.hid (by rw [Lib.byteCells_append,List.length_append];exact hown3),Lib.hid ((al HB.out (Nat.le_refl _) _).grown hgrow3 (by have:=HB.out.size;simp;omega) (fun k e=>(HO.out.lt k e).1))⟩,by simp [intOf];omega⟩
    ·have hnx2 : (len : Int) ≤ (p : Int) + 1:=by omega
     have HN : Hid ((pre ++ [10]) ++ linesL (l.drop (p + 1)) = linesL l):=Lib.hid (by
      rw [← HF.out,hd,lines_one hc13 (by rw [List.drop_of_length_le (by rw [HLL.out];omega)];simp),List.append_assoc];rfl)
     clear hd hcl h13 hc13
     go_wp2_with (at_builtin;refine wpList_append_own _ rfl _ _ 22 rfl w.heap.size 5 i0 (.int .u8 0) 1 1 Tryz.underlying22 hi hz0 hz1 hz2 rfl (by decide) _ _ _ rfl (HO.out.alloc _) ⟨wr.heap.size,0,none⟩ 1 1 [.int .u8 10] rfl rfl (cell_one_new _ _ _) (by simp [Value.oneCell']) (by unfold maxLen;omega) (by omega) (by have:=HB.out.size;simp;omega) ?_;intro v3 w3 hown3 hgrow3 _)
     all_goals (try (exfalso;simp_all;done))
     exact ⟨⟨p + 1,pre ++ [10],by omega,by go_num,by simp;omega,HN,Lib.hid (by rw [Lib.byteCells_append,List.length_append];exact hown3),Lib.hid ((al HB.out (Nat.le_refl _) _).grown hgrow3 (by have:=HB.out.size;simp;omega) (fun k e=>(HO.out.lt k e).1))⟩,by simp [intOf];omega⟩
   ·have hb13 : ((((l[p]'hpl2).toNat : Int)) == 13) = false:=by rw [beq_eq_false_iff_ne];omega
    have HN : Hid ((pre ++ [l[p]'hpl2]) ++ linesL (l.drop (p + 1)) = linesL l):=Lib.hid (by
     rw [← HF.out,hd,lines_keep (fun e=>h13 (by rw [e];rfl)),List.append_assoc];rfl)
    clear hd hcl h13
    go_wp2_with (at_builtin;refine wpList_append_own _ rfl _ _ 22 rfl w.heap.size 5 i0 (.int .u8 0) 1 1 Tryz.underlying22 hi hz0 hz1 hz2 rfl (by decide) _ _ _ rfl (HO.out.alloc _) ⟨wr.heap.size,0,none⟩ 1 1 [.int .u8 ((l[p]'hpl2).toNat : Int)] rfl rfl (cell_one_new _ _ _) (by simp [Value.oneCell']) (by unfold maxLen;omega) (by omega) (by have:=HB.out.size;simp;omega) ?_;intro v3 w3 hown3 hgrow3 _)
    all_goals (try (exfalso;simp_all;done))
    exact ⟨⟨p + 1,pre ++ [l[p]'hpl2],by omega,by go_num,by simp;omega,HN,Lib.hid (by rw [Lib.byteCells_append,List.length_append];exact hown3),Lib.hid ((al HB.out (Nat.le_refl _) _).grown hgrow3 (by have:=HB.out.size;simp;omega) (fun k e=>(HO.out.lt k e).1))⟩,by simp [intOf];omega⟩
  ·obtain rfl : p = len:=by omega
   have HE : Hid (linesL l = pre):=Lib.hid (by rw [← HF.out,List.drop_of_length_le (by rw [HLL.out];omega)];simp [linesL])
   have hcb:=conv_own _ _ _ _ HO.out
   go_wp2
   go_ret
   exact ⟨by rw [HE.out];rfl,HB.out⟩
theorem TokRow.at {w : World} {base : Nat} {v : Value} {l : List (Tok × Value)} (h : TokRow w base v l) : TokAt w v (l.map (·.1)):=
 ⟨l,rfl,by rw [List.length_map];exact AtRow.of_own h.1,fun x hx=>AtRow.of_own (h.2 x hx)⟩
theorem allT_whole {l : List UInt8} (h1 : ¬ 65536 < l.length) (h2 : ¬ chkC (ints l) < l.length) : (∀ ts,allL3 (linesL l) = .ok ts → allT l = .ok ts) ∧ (∀ p,allL3 (linesL l) = .error p → allT l = .error (p,12)):=by
 unfold allT
 rw [if_neg h1,if_neg h2]
 exact ⟨fun ts h=>by rw [h],fun p h=>by rw [h]⟩
theorem none_treeX (w : World) : TreeV w (.node [] [] [] []) [.string ⟨#[]⟩,.string ⟨#[]⟩,.slice none 0 0,.slice none 0 0]:=by
 rw [TreeV.eq]
 exact ⟨_,_,rfl,⟨none,0,rfl,Nat.le_refl _,rfl,fun h=>absurd h (by simp)⟩,[],by rw [KidsV],⟨none,0,rfl,Nat.le_refl _,rfl,fun h=>absurd h (by simp)⟩⟩
theorem none_none (w : World) : Calls Tryz.prog 11 #[.agg #[.string ⟨#[]⟩,.string ⟨#[]⟩,.slice none 0 0,.slice none 0 0]] w fun e w'=>e = .returned (.bool true) ∧ Below w.heap.size w w':=
 none_any (.node [] [] [] []) _ w rfl (none_treeX w)
open Go.RowKit
set_option maxHeartbeats 2000000 in
theorem refAll_big (a : Option Addr) (len cap : Nat) (zs : List Int) (w : World) (hz : Byt w a len cap zs) (hlen : len ≤ 1000000) :
  Calls Tryz.prog 10 #[.slice a len cap] w fun e w'=>RefAllPost zs w e w':=by
 have HZ:=Lib.hid hz
 have hcap:=hz.leCap
 obtain ⟨i0,hi,hz0,hz1,hz2⟩:=info_parts info3
 obtain ⟨b,off,hab,hcell⟩ : ∃ b off,(0 < len → a = some ⟨b,off,none⟩) ∧ ∀ i,i < len → w.cell? ⟨b,off + i,none⟩ = some (.int .u8 (zs[i]?.getD 0)):=by
  by_cases h0 : 0 < len
  ·obtain ⟨b,off,h1,h2⟩:=hz.cells h0
   exact ⟨b,off,fun _=>h1,h2⟩
  ·exact ⟨0,0,fun h=>absurd h h0,fun i hi=>absurd hi (by omega)⟩
 have hbB : 0 < len → b < w.heap.size:=fun h=>by have:=block_lt_of_cell (hcell 0 h);simpa using this
 have HAB:=Lib.hid hab
 have HC:=Lib.hid hcell
 clear hz hab hcell
 go_enter Tryz.func10,Tryz.ntmps10
 go_wp2_with fail
 go_loopw [4,5] (fun v i wr=>∃ (p : Nat) (pre : List Int),p ≤ len ∧ i = .int .i64 p ∧ Far zs pre p ∧ wr.ownsRow w.heap.size 3 1 v pre.length (pre.map (Value.int .i64)) ∧ Below w.heap.size w wr)
  (fun _ i _=>len - (intOf i).toNat)
 case atStart=>exact ⟨0,[],by omega,rfl,by simp [Far],World.ownsRow_nil _ _ _ _,Below.refl _ _⟩
 case round=>
  obtain ⟨p,pre,hp,rfl,hfar,hown,hB⟩:=hrel
  by_cases hlt : p < len
  ·obtain rfl:=HAB.out (by omega)
   have hcp : ¬ cap = p:=by omega
   have hc2 : ∀ i,i < len - p → wr.cell? ⟨b,off + p + i,none⟩ = some (.int .u8 ((zs.drop p)[i]?.getD 0)):=fun i hi=>by
    rw [List.getElem?_drop,show off + p + i = off + (p + i) by omega]
    exact (hB.cell (p:=⟨b,off + (p + i),none⟩) (hbB (by omega))).trans (HC.out (p + i) (by omega))
   have HC2:=Lib.hid hc2
   have HO:=Lib.hid hown
   have HBe:=Lib.hid hB
   have hpl : pre.length ≤ 1000000:=by
    have h1:=congrArg List.length hfar.1
    rw [List.length_append] at h1
    have h2:=runes_len' zs
    have h3:=HZ.out.eqLen
    omega
   clear hc2 hown hB
   go_wp2_with fail
   refine (read_any b (off + p) (len - p) (cap - p) (zs.drop p) _ (by have:=HZ.out.eqLen;simp;omega) (by omega) (fun z hz=>HZ.out.byte z (List.mem_of_mem_drop hz)) HC2.out (by omega)).mono ?_
   rintro e w2 ⟨hb2,he⟩
   have HO2:=Lib.hid (own_below HO.out hb2)
   have HB2:=Lib.hid (th HBe.out (Nat.le_refl _) hb2)
   clear hb2
   cases hd : decC (zs.drop p) with
   | none=>
    rw [hd] at he
    subst he
    have h1:=hfar.1
    have h2:=hfar.2
    rw [runesC_none hd,List.append_nil] at h1
    rw [chkC_none hd,Nat.add_zero] at h2
    have H1:=Lib.hid h1
    have H2:=Lib.hid h2
    clear hd h1 h2 hfar
    go_wp2
    go_ret2
    exact ⟨_,by rw [← H2.out];rfl,by rw [← H1.out];exact HO2.out,HB2.out⟩
   | some x=>
    obtain ⟨r,n⟩:=x
    rw [hd] at he
    subst he
    have hs:=decC_some hd
    have hpn : p + n ≤ len:=by
     have h1:=hs.2.2.1
     have h2:=HZ.out.eqLen
     simp only [List.length_drop] at h1
     omega
    have hfar2 : Far zs (pre ++ [r]) (p + n):=by
     have h1:=hfar.1
     have h2:=hfar.2
     rw [runesC_some hd,List.drop_drop] at h1
     rw [chkC_some hd,List.drop_drop] at h2
     exact ⟨by rw [← h1];simp,by omega⟩
    have hn0 : ((n : Int) == 0) = false:=by rw [beq_eq_false_iff_ne];have:=hs.1;omega
    have hn1:=hs.1
    clear hd hs hfar
    go_wp2_with (at_builtin;refine wpList_append_own _ rfl _ _ 31 rfl w.heap.size 3 i0 (.int .i64 0) 1 8 Tryz.underlying31 hi hz0 hz1 hz2 rfl (by decide) _ _ _ rfl (HO2.out.alloc _) ⟨w2.heap.size,0,none⟩ 1 1 [.int .i64 r] rfl rfl (cell_one_new _ _ _) (by simp [Value.oneCell']) (by unfold maxLen;omega) (by omega) (by have:=HB2.out.size;simp;omega) ?_;intro v3 w3 hown3 hgrow3 _)
    have HB3:=Lib.hid ((al HB2.out (Nat.le_refl _) _).grown hgrow3 (by have:=HB2.out.size;simp;omega) (fun k e=>(HO2.out.lt k e).1))
    have HO3:=Lib.hid (show w3.ownsRow w.heap.size 3 1 v3 (pre ++ [r]).length ((pre ++ [r]).map (Value.int .i64)) by simpa using hown3)
    clear hown3 hgrow3
    go_wp2
    go_roundw
    case rel=>exact ⟨p + n,pre ++ [r],hpn,by go_num,hfar2,HO3.out,HB3.out⟩
    case measure=>simp [intOf];omega
  ·obtain rfl : p = len:=by omega
   have h0 : zs.drop p = []:=List.drop_of_length_le (by have:=HZ.out.eqLen;omega)
   have h1:=hfar.1
   have h2:=hfar.2
   rw [h0] at h1 h2
   have H1:=Lib.hid (show pre = runesC zs by simpa [runesC,runesF] using h1)
   have H2:=Lib.hid (show p = chkC zs by simpa [chkC_nil] using h2)
   clear h0 h1 h2 hfar
   go_wp2
   go_ret2
   exact ⟨_,by rw [← H2.out];rfl,by rw [← H1.out];exact hown,hB⟩
set_option maxHeartbeats 1000000 in
theorem chars_big (s : ByteArray) (w : World) (hs : s.size ≤ 1000000) :
  Calls Tryz.prog 38 #[.string s] w fun e w'=>e = .returned (.bool (wholeB (bts s))) ∧ Below w.heap.size w w':=by
 have hcv:=conv_any w s
 have HB:=Lib.hid (bytes_below w s)
 have HZ:=Lib.hid (bytes_byt w s (by omega))
 have HS:=Lib.hid hs
 have HW : Hid (((chkC (ints (bts s)) : Int) == (s.size : Int)) = wholeB (bts s)):=Lib.hid (by
  rw [Bool.eq_iff_iff];simp [wholeB,bts_len];try omega)
 generalize Lib.bytesWorld w 5 s = w1 at hcv HB HZ
 clear hs
 go_enter Tryz.func38,Tryz.ntmps38
 go_wp2_with fail
 refine (refAll_big _ _ _ _ _ HZ.out HS.out).mono ?_
 rintro e w2 ⟨v,rfl,_,hb⟩
 go_wp2
 go_ret
 refine ⟨?_,HB.out.trans (hb.mono HB.out.size)⟩
 show Ending.returned (.bool _) = _
 rw [← HW.out]
theorem szX_w : ∀ ts : List Tok,szX ts ≤ sumW ts + 2 * ts.length:=by
 intro ts
 induction ts with
 | nil=>simp [szX,sumW]
 | cons t r ih=>
  have h1 : szX (t :: r) = t.attrs.length + t.text.length + 2 + szX r:=by simp [szX]
  have h2 : sumW (t :: r) = wTok t + sumW r:=by simp [sumW]
  have h3 : t.attrs.length + t.text.length ≤ wTok t:=by have:=wA_len t.attrs;unfold wTok;omega
  rw [List.length_cons]
  omega
theorem wA_memS : ∀ {al : List (List UInt8 × List UInt8)} {a : List UInt8 × List UInt8},a ∈ al → a.1.length ≤ wA al ∧ a.2.length ≤ wA al:=by
 intro al
 induction al with
 | nil=>intro a h;cases h
 | cons b r ih=>
  intro a h
  have h2 : wA (b :: r) = 1 + b.1.length + b.2.length + wA r:=by simp [wA]
  rcases List.mem_cons.1 h with rfl | h
  ·omega
  ·have:=ih h;omega
theorem steps_w (t : Tr) : (stepsT t).length ≤ 2 * wT t ∧ ∀ x ∈ stepsT t,x.name.length ≤ wT t ∧ x.text.length ≤ wT t:=by
 refine Tr.rec (motive_1:=fun t=>(stepsT t).length ≤ 2 * wT t ∧ ∀ x ∈ stepsT t,x.name.length ≤ wT t ∧ x.text.length ≤ wT t)
  (motive_2:=fun ks=>(stepsK ks).length ≤ 2 * wK ks ∧ ∀ x ∈ stepsK ks,x.name.length ≤ wK ks ∧ x.text.length ≤ wK ks) ?_ ?_ ?_ t
 ·intro lb tx al ks ih
  obtain ⟨i1,i2⟩:=ih
  have hw : wT (.node lb tx al ks) = 1 + lb.length + tx.length + wA al + wK ks:=by rw [wT]
  rw [stepsT]
  by_cases h0 : lb = []
  ·rw [if_pos h0]
   refine ⟨by rw [hw,List.length_singleton];omega,fun x hx=>?_⟩
   obtain rfl:=List.mem_singleton.1 hx
   exact ⟨by simp,by rw [hw];show tx.length ≤ _;omega⟩
  ·rw [if_neg h0]
   have hl:=wA_len al
   refine ⟨by rw [hw];simp only [List.length_cons,List.length_append,List.length_map,List.length_nil];omega,fun x hx=>?_⟩
   rcases List.mem_cons.1 hx with rfl | hx
   ·exact ⟨by rw [hw];show lb.length ≤ _;omega,by simp⟩
   ·rcases List.mem_append.1 hx with hx | hx
    ·obtain ⟨a,ha,rfl⟩:=List.mem_map.1 hx
     have:=wA_memS ha
     exact ⟨by rw [hw];show a.1.length ≤ _;omega,by rw [hw];show a.2.length ≤ _;omega⟩
    ·rcases List.mem_append.1 hx with hx | hx
     ·have:=i2 x hx
      exact ⟨by omega,by omega⟩
     ·obtain rfl:=List.mem_singleton.1 hx
      exact ⟨by simp,by simp⟩
 ·exact ⟨by simp [stepsK],fun x hx=>by simp [stepsK] at hx⟩
 ·intro t ks i1 i2
  have hw : wK (t :: ks) = wT t + wK ks:=by rw [wK]
  rw [stepsK]
  refine ⟨by rw [List.length_append,hw];omega,fun x hx=>?_⟩
  rcases List.mem_append.1 hx with hx | hx
  ·have:=i1.2 x hx;exact ⟨by omega,by omega⟩
  ·have:=i2.2 x hx;exact ⟨by omega,by omega⟩
theorem toks_small {l : List UInt8} {ts : List Tok} (h : allT l = .ok ts) : szX ts ≤ 13 * l.length ∧ (∀ t ∈ ts,t.kind = 2 → t.name ≠ []) ∧ sumW ts ≤ 11 * l.length:=by
 obtain ⟨hw,h4,hl⟩:=allT_okX h
 have hf:=allT_facts h
 have hsh:=all_short3 (lines_whole hw) (lines_no13 l) h4
 have hll:=lines_len l
 have hww:=all_w _ _ _ _ _ (fun t ht=>by cases ht) h4
 have hsw:=sumW_flat hww
 have h1:=szX_w ts
 have h2:=hf.2.2.2.1
 exact ⟨by omega,fun t ht hk=>((hf.2.2.2.2 t ht).1 hk).1,by omega⟩
theorem xml_steps {l : List UInt8} {ts : List Tok} (h : allT l = .ok ts) : (∀ i,xmlL ts = .error i → parseX l = .error (i,12)) ∧
  (∀ s,xmlL ts = .ok s → ∃ T,s = stepsT T ∧ wT T ≤ 11 * l.length ∧ (checkS s = 0 → parseX l = .ok T) ∧ (checkS s ≠ 0 → parseX l = .error (0,checkS s))):=by
 obtain ⟨_,hn,hw⟩:=toks_small h
 have he:=treeL_steps hn
 cases ht : treeL ts with
 | error i=>
  rw [ht] at he
  have he2 : xmlL ts = .error i:=he
  refine ⟨fun j hj=>?_,fun s hs=>?_⟩
  ·rw [he2] at hj
   injection hj with hj
   subst hj
   exact parseX_no h ht
  ·rw [he2] at hs;cases hs
 | ok T=>
  rw [ht] at he
  have he2 : xmlL ts = .ok (stepsT T):=he
  refine ⟨fun j hj=>?_,fun s hs=>?_⟩
  ·rw [he2] at hj;cases hj
  ·rw [he2] at hs
   injection hs with hs
   subst hs
   obtain ⟨hb,_⟩:=treeL_bare hn ht
   have hc:=chk_steps hb
   refine ⟨T,rfl,by have:=treeL_w hn ht;omega,fun h0=>?_,fun h0=>?_⟩
   ·exact parseX_ok h ht (by rw [hc];exact h0)
   ·rw [← hc] at h0 ⊢
    exact parseX_bad h ht h0
end Go.Proofs.YtjldpkhfiffinaaGreatDoor.U
