/- Contracts and plain facts that the law stands on: Pw. -/
import Derived.Test.YtjldpkhfiffinaaGreatDoorZC30
import Derived.Test.YtjldpkhfiffinaaGreatDoorZC33
import Derived.Test.YtjldpkhfiffinaaGreatDoorZC26
import Derived.Test.YtjldpkhfiffinaaGreatDoorZC25
import Derived.Deep.AppendLies
namespace Go.Proofs.YtjldpkhfiffinaaGreatDoor.U
open Go.RowKit Go.Shelf
theorem KidsS.get {S : Nat → Prop} {w : World} : ∀ {ks : List Tr} {l : List (List Value)},KidsS S w ks l → ∀ k t,ks[k]? = some t → ∃ h,TreeS S w t h ∧ ∀ i v,h[i]? = some v → l.flatten[k * 4 + i]? = some v:=by
 intro ks
 induction ks with
 | nil=>intro l _ k t ht;simp at ht
 | cons u r ih=>
  intro l h k t ht
  rw [KidsS] at h
  obtain ⟨a,q,rfl,h2,h3⟩:=h
  have h4 : a.length = 4:=by
   obtain ⟨_,_,_,_,_,_,_,_,e⟩:=h2.four
   rw [e];rfl
  cases k with
  | zero=>
   simp only [List.getElem?_cons_zero,Option.some.injEq] at ht
   subst ht
   refine ⟨a,h2,fun i v hv=>?_⟩
   have hi : i < a.length:=(List.getElem?_eq_some_iff.1 hv).1
   rw [List.flatten_cons,Nat.zero_mul,Nat.zero_add,List.getElem?_append_left hi]
   exact hv
  | succ k=>
   simp only [List.getElem?_cons_succ] at ht
   obtain ⟨b,h5,h6⟩:=ih h3 k t ht
   refine ⟨b,h5,fun i v hv=>?_⟩
   rw [List.flatten_cons,List.getElem?_append_right (by omega),h4,show (k + 1) * 4 + i - 4 = k * 4 + i by omega]
   exact h6 i v hv
def RowW (w : World) (base : Nat) (v : Value) (l : List (Tok × Value)) : Prop:=
 w.ownsRow base 119 5 v l.length (tvCells l) ∧ ∀ x ∈ l,AtRowS (fun g=>g < base) w x.2 x.1.attrs.length 2 (attrCells x.1.attrs)
theorem RowW.at {w : World} {base : Nat} {v : Value} {l : List (Tok × Value)} (h : RowW w base v l) : TokAt w v (l.map (·.1)):=
 ⟨l,rfl,by rw [List.length_map];exact AtRow.of_own h.1,fun x hx=>(h.2 x hx).v⟩
theorem tv_snoc (l : List (Tok × Value)) (x : Tok × Value) : tvCells (l ++ [x]) = tvCells l ++ (tokCells x.1 x.2).toList:=by unfold tvCells;rw [List.flatMap_append];simp
theorem RowW.below {w w' : World} {base : Nat} {v : Value} {l : List (Tok × Value)} (h : RowW w base v l) (hb : Below w.heap.size w w') : RowW w' base v l:=
 ⟨own_bel h.1 hb,fun x hx=>(h.2 x hx).keep hb.size (fun g _ hg=>hb.block g hg)⟩
theorem RowW.more {w w' : World} {base : Nat} {v v' : Value} {l : List (Tok × Value)} {x : Tok × Value} (h : RowW w base v l) (hx : AtRowS (fun g=>g < base) w x.2 x.1.attrs.length 2 (attrCells x.1.attrs))
  (h1 : w'.ownsRow base 119 5 v' (l.length + 1) (tvCells l ++ (tokCells x.1 x.2).toList)) (hg : w.grownBy w' v.ownBlock) : RowW w' base v' (l ++ [x]):=by
 have keep : ∀ {y : Value} {n : Nat} {xs : List Value},AtRowS (fun g=>g < base) w y n 2 xs → AtRowS (fun g=>g < base) w' y n 2 xs:=fun hy=>hy.keep hg.size (fun g hs hl=>hg.block g hl (fun e=>by have:=(h.1.lt g e.symm).1;omega))
 refine ⟨by rw [List.length_append,List.length_singleton,tv_snoc];exact h1,fun y hy=>?_⟩
 rcases List.mem_append.1 hy with h2 | h2
 ·exact keep (h.2 y h2)
 ·obtain rfl:=List.mem_singleton.1 h2
  exact keep hx
theorem own_box {w : World} {base size n b : Nat} {e t : TypeId} {v : Value} {xs : List Value} {cs : Array Value} {fr : Nat × Nat} (h : w.ownsRow base e size v n xs) (hb : w.heap[b]? = some (.cells cs t fr)) (hne : t ≠ e) : some b ≠ v.ownBlock:=by
 intro e1
 rcases h.2 with ⟨rfl,_⟩ | ⟨g,cap,cur,rfl,_,h3,_⟩
 ·cases e1
 ·simp only [Value.ownBlock,Option.some.injEq] at e1
  subst e1
  rw [hb] at h3
  simp only [Option.some.injEq,Obj.cells.injEq] at h3
  exact hne h3.2.1
def GrowsTo (w w' : World) (v v' : Value) : Prop:=w.grownBy w' v.ownBlock ∧ (v'.ownBlock = v.ownBlock ∨ ∃ g,v'.ownBlock = some g ∧ w.heap.size ≤ g)
theorem GrowsTo.trans {w w1 w2 : World} {v v1 v2 : Value} (h : GrowsTo w w1 v v1) (k : GrowsTo w1 w2 v1 v2) : GrowsTo w w2 v v2:=by
 obtain ⟨h1,h2⟩:=h
 obtain ⟨k1,k2⟩:=k
 have hs:=h1.size
 refine ⟨⟨k1.os.trans h1.os,k1.tape.trans h1.tape,k1.output.trans h1.output,Nat.le_trans hs k1.size,fun g hg hne=>(k1.block g (by omega) (fun e=>?_)).trans (h1.block g hg hne)⟩,?_⟩
 ·rcases h2 with h2 | ⟨g',h2,h3⟩
  ·exact hne (e.trans h2)
  ·rw [h2] at e;injection e with e;omega
 ·rcases k2 with k2 | ⟨g',k2,k3⟩
  ·rw [k2];exact h2
  ·exact .inr ⟨g',k2,by omega⟩
theorem GrowsTo.same {w w' : World} (v : Value) (h : Below w.heap.size w w') : GrowsTo w w' v v:=⟨⟨h.os,h.tape,h.output,h.size,fun g hg _=>h.block g hg⟩,.inl rfl⟩
theorem GrowsTo.below {w w' : World} {v v' : Value} {base : Nat} (h : GrowsTo w w' v v') (hb0 : base ≤ w.heap.size) (hv : ∀ g,v.ownBlock = some g → base ≤ g) : Below base w w':=
 (Below.refl base w).grown h.1 hb0 hv
def PiecesP (base : Nat) (v : Value) (l : List (Tok × Value)) (ts : List Tok) (w : World) (e : Ending) (w' : World) : Prop:=
 ∃ a c l',e = .returned (.slice a l'.length c) ∧ l'.map (·.1) = l.map (·.1) ++ ts ∧ RowW w' base (.slice a l'.length c) l' ∧ GrowsTo w w' v (.slice a l'.length c)
set_option maxHeartbeats 4000000 in
set_option maxRecDepth 20000 in
theorem pieces_text {base : Nat} (a : Option Addr) (c : Nat) (l : List (Tok × Value)) (tx : List UInt8) (va vk : Value) (ks : List Tr) (al : List (List UInt8 × List UInt8)) (w : World) (hb0 : base ≤ w.heap.size) (hl : RowW w base (.slice a l.length c) l) (hsz : l.length ≤ 1000000) :
  Calls Tryz.prog 42 #[.slice a l.length c,.agg #[.string ⟨#[]⟩,.string ⟨tx.toArray⟩,va,vk]] w fun e w'=>PiecesP base (.slice a l.length c) l (toksT (.node [] tx al ks)) w e w':=by
 have HIT:=Lib.hid (fun W : World=>isTextX_any [] ⟨tx.toArray⟩ va vk true rfl W)
 obtain ⟨txb,htxb⟩ : ∃ txb : ByteArray,txb = ⟨tx.toArray⟩:=⟨_,rfl⟩
 rw [← htxb] at HIT ⊢
 have HTX:=Lib.hid htxb
 obtain ⟨W0,hW0⟩ : ∃ W0,W0 = w.alloc (.cells #[.string ⟨#[]⟩,.string txb,va,vk] 27):=⟨_,rfl⟩
 have HB0 : Hid (Below w.heap.size w W0):=Lib.hid (by rw [hW0];exact (Below.refl _ w).alloc (Nat.le_refl _) _)
 have HX0 : Hid (Box4 w.heap.size ⟨#[]⟩ txb va vk W0):=Lib.hid (by rw [hW0];exact Box4.made _ _ _ _ _)
 have HL:=Lib.hid hl
 obtain ⟨n,hn⟩ : ∃ n,n = l.length:=⟨_,rfl⟩
 rw [← hn] at hsz ⊢
 have HN:=Lib.hid hn
 clear hl htxb hn
 go_enter Tryz.func42,Tryz.ntmps42
 go_wp2_with fail
 rw [← hW0]
 clear hW0
 (with_reducible refine (HIT.out _).mono ?_)
 rintro e w1 ⟨rfl,hb1⟩
 have HB1:=Lib.hid (th HB0.out (Nat.le_refl _) hb1)
 have HX1:=Lib.hid (HX0.out.below hb1 (Nat.le_refl _))
 clear hb1
 obtain ⟨x0,x1,x2,x3⟩:=HX1.out.at
 obtain ⟨W2,hW2⟩ : ∃ W2,W2 = w1.alloc (.cells #[.int .i64 4,.string ⟨#[]⟩,.string txb,.slice none 0 0,.bool false] 119):=⟨_,rfl⟩
 have HB2 : Hid (Below w1.heap.size w1 W2):=Lib.hid (by rw [hW2];exact (Below.refl _ w1).alloc (Nat.le_refl _) _)
 have HL2 : Hid (RowW W2 base (.slice a n c) l):=Lib.hid (by rw [HN.out];exact (HL.out.below HB1.out).below HB2.out)
 have HN2 : Hid (∀ j u,[Value.int .i64 4,.string ⟨#[]⟩,.string txb,.slice none 0 0,.bool false][j]? = some u → W2.cell? ((⟨w1.heap.size,0,none⟩ : Addr).add j) = some u):=Lib.hid (by rw [hW2];exact World.news_of_block (cs:=#[.int .i64 4,.string ⟨#[]⟩,.string txb,.slice none 0 0,.bool false]) (t:=119) (fr:=(0,0)) (heap_alloc_new w1 _))
 have HBW : Hid (base ≤ W2.heap.size):=Lib.hid (by have:=HB1.out.size;have:=HB2.out.size;omega)
 have HOW : Hid (W2.ownsRow base 119 5 (.slice a n c) n (tvCells l)):=Lib.hid (by have:=HL2.out.1;rw [← HN.out] at this;exact this)
 have HW2:=Lib.hid hW2
 obtain ⟨i0,hi,hz0,hz1,hz2⟩:=info_parts infoTK
 clear hW2
 go_wp2_with (at_builtin;rw [← HW2.out];refine wpList_append_lies _ rfl (.tmp 10) (.tmp 14) 65 rfl base 119 i0 (.agg #[.int .i64 0,.string ⟨#[]⟩,.string ⟨#[]⟩,.slice none 0 0,.bool false]) 5 72 Tryz.underlying65 hi hz0 hz1 hz2 rfl (by decide) (.slice a n c) n _ rfl HOW.out ⟨w1.heap.size,0,none⟩ 1 1 [.int .i64 4,.string ⟨#[]⟩,.string txb,.slice none 0 0,.bool false] rfl rfl HN2.out (by simp [Value.oneCell']) (by decide) (by unfold maxLen;omega) (by omega) HBW.out _ rfl ?_;intro g3 c3 w3 hown3 hg3 hat3 hlt3)
 have HA3:=Lib.hid hat3
 have HO3:=Lib.hid hown3
 have HG3:=Lib.hid hg3
 clear hown3 hg3 hat3 hlt3
 go_wp2
 go_ret
 have hm:=HL2.out.more (x:=(⟨4,[],tx,[],false⟩,.slice none 0 0)) (v':=.slice (some ⟨g3,0,none⟩) (n + 1) c3) ⟨none,0,rfl,Nat.le_refl _,rfl,fun h=>absurd h (by simp)⟩ (by have:=HO3.out;rw [HTX.out] at this;rw [← HN.out];exact this) HG3.out
 refine ⟨some ⟨g3,0,none⟩,c3,l ++ [(⟨4,[],tx,[],false⟩,.slice none 0 0)],?_,?_,?_,?_⟩
 ·rw [List.length_append,List.length_singleton,← HN.out];rfl
 ·rw [toksT_text];simp
 ·rw [List.length_append,List.length_singleton,← HN.out];exact hm
 ·refine (GrowsTo.same _ (th HB1.out (Nat.le_refl _) HB2.out)).trans ⟨HG3.out,?_⟩
  rw [List.length_append,List.length_singleton,← HN.out]
  rcases HA3.out with h | h
  ·exact .inl h.symm
  ·exact .inr ⟨g3,rfl,by omega⟩
set_option maxHeartbeats 8000000 in
set_option maxRecDepth 20000 in
theorem pieces_elem {base : Nat} (lb tx : List UInt8) (hlb : lb ≠ []) (al : List (List UInt8 × List UInt8)) (ks : List Tr)
  (IH : ∀ (k : Nat) (t : Tr),ks[k]? = some t → ∀ (hs : List Value) (W : World) (a : Option Addr) (c : Nat) (l : List (Tok × Value)),base ≤ W.heap.size → TreeS (fun g=>g < base) W t hs → RowW W base (.slice a l.length c) l → l.length + (toksT t).length ≤ 1000000 → Calls Tryz.prog 42 #[.slice a l.length c,.agg hs.toArray] W fun e w'=>PiecesP base (.slice a l.length c) l (toksT t) W e w')
  (hs : List Value) (w : World) (a : Option Addr) (c : Nat) (l : List (Tok × Value)) (hb0 : base ≤ w.heap.size) (ht : TreeS (fun g=>g < base) w (.node lb tx al ks) hs) (hl : RowW w base (.slice a l.length c) l) (hsz : l.length + (toksT (.node lb tx al ks)).length ≤ 1000000) :
  Calls Tryz.prog 42 #[.slice a l.length c,.agg hs.toArray] w fun e w'=>PiecesP base (.slice a l.length c) l (toksT (.node lb tx al ks)) w e w':=by
 have HT:=Lib.hid ht
 rw [TreeS.eq] at ht
 obtain ⟨va,vk,rfl,hva,lk,hlk,hvk⟩:=ht
 obtain ⟨a1,c1,rfl,_⟩:=id hva
 obtain ⟨d,c2,rfl,hkc,hkl,hkx⟩:=id hvk
 have HVA:=Lib.hid hva
 obtain ⟨n1,hn1⟩ : ∃ n1,n1 = al.length:=⟨_,rfl⟩
 obtain ⟨n2,hn2⟩ : ∃ n2,n2 = ks.length:=⟨_,rfl⟩
 obtain ⟨n,hn⟩ : ∃ n,n = l.length:=⟨_,rfl⟩
 have HN:=Lib.hid hn
 have HN1:=Lib.hid hn1
 have HN2:=Lib.hid hn2
 have HIH:=Lib.hid IH
 have HL:=Lib.hid hl
 have HSZ:=Lib.hid hsz
 have HKX:=Lib.hid hkx
 have HLK:=Lib.hid hlk
 have HIT:=Lib.hid (fun W : World=>isTextX_any lb ⟨tx.toArray⟩ (.slice a1 n1 c1) (.slice d n2 c2) false (decide_eq_false hlb) W)
 have hn6 : n + 1 ≤ 1000000:=by
  have : 1 ≤ (toksT (.node lb tx al ks)).length:=by
   cases ks with
   | nil=>rw [toksT_empty _ _ hlb];simp
   | cons k q=>rw [toksT_kids _ _ _ _ hlb];simp
  omega
 rw [← hn,← hn1,← hn2]
 obtain ⟨lbb,hlbb⟩ : ∃ x : ByteArray,x = ⟨lb.toArray⟩:=⟨_,rfl⟩
 obtain ⟨txb,htxb⟩ : ∃ x : ByteArray,x = ⟨tx.toArray⟩:=⟨_,rfl⟩
 rw [← hlbb,← htxb] at HIT ⊢
 have HLB:=Lib.hid hlbb
 have hks6 : n2 ≤ 1000000:=by
  have h1 : ∀ js : List Tr,js.length ≤ (toksK js).length:=by
   intro js
   induction js with
   | nil=>simp
   | cons t r ih=>
    have h2 : 1 ≤ (toksT t).length:=by
     obtain ⟨l1,t1,a1,k1⟩:=t
     by_cases h3 : l1 = []
     ·subst h3;rw [toksT_text];simp
     ·cases k1 with
      | nil=>rw [toksT_empty _ _ h3];simp
      | cons k q=>rw [toksT_kids _ _ _ _ h3];simp
    simp only [toksK,List.length_append,List.length_cons]
    omega
  have h2:=h1 ks
  cases ks with
  | nil=>simp at hn2;omega
  | cons k q=>rw [toksT_kids _ _ _ _ hlb] at hsz;simp at hsz;rw [hn2];omega
 clear hva hvk hkl hkx hlk hl hsz hn hn1 hn2 IH htxb hkc hlbb
 obtain ⟨W0,hW0⟩ : ∃ W0,W0 = w.alloc (.cells #[.string lbb,.string txb,.slice a1 n1 c1,.slice d n2 c2] 27):=⟨_,rfl⟩
 have HB0 : Hid (Below w.heap.size w W0):=Lib.hid (by rw [hW0];exact (Below.refl _ w).alloc (Nat.le_refl _) _)
 have HX0 : Hid (Box4 w.heap.size lbb txb (.slice a1 n1 c1) (.slice d n2 c2) W0):=Lib.hid (by rw [hW0];exact Box4.made _ _ _ _ _)
 have hbx0 : base ≤ w.heap.size:=hb0
 -- the Open
 go_enter Tryz.func42,Tryz.ntmps42
 go_wp2_with fail
 rw [← hW0]
 clear hW0
 (with_reducible refine (HIT.out _).mono ?_)
 rintro e w1 ⟨rfl,hb1⟩
 have HB1:=Lib.hid (th HB0.out (Nat.le_refl _) hb1)
 have HX1:=Lib.hid (HX0.out.below hb1 (Nat.le_refl _))
 clear hb1
 obtain ⟨x0,x1,x2,x3⟩:=HX1.out.at
 obtain ⟨em,hem⟩ : ∃ em,em = decide (n2 = 0):=⟨_,rfl⟩
 have hemb : ((n2 : Int) == 0) = em:=by rw [hem];by_cases h : n2 = 0 <;> simp [h]
 obtain ⟨W2,hW2⟩ : ∃ W2,W2 = w1.alloc (.cells #[.int .i64 2,.string lbb,.string ⟨#[]⟩,.slice a1 n1 c1,.bool em] 119):=⟨_,rfl⟩
 have HB2 : Hid (Below w1.heap.size w1 W2):=Lib.hid (by rw [hW2];exact (Below.refl _ w1).alloc (Nat.le_refl _) _)
 have HL2 : Hid (RowW W2 base (.slice a n c) l):=Lib.hid (by rw [HN.out];exact (HL.out.below HB1.out).below HB2.out)
 have HNW2 : Hid (∀ j u,[Value.int .i64 2,.string lbb,.string ⟨#[]⟩,.slice a1 n1 c1,.bool em][j]? = some u → W2.cell? ((⟨w1.heap.size,0,none⟩ : Addr).add j) = some u):=Lib.hid (by rw [hW2];exact World.news_of_block (cs:=#[.int .i64 2,.string lbb,.string ⟨#[]⟩,.slice a1 n1 c1,.bool em]) (t:=119) (fr:=(0,0)) (heap_alloc_new w1 _))
 have HBW : Hid (base ≤ W2.heap.size):=Lib.hid (by have:=HB1.out.size;have:=HB2.out.size;omega)
 have HOW : Hid (W2.ownsRow base 119 5 (.slice a n c) n (tvCells l)):=Lib.hid (by have:=HL2.out.1;rw [← HN.out] at this;exact this)
 have HW2:=Lib.hid hW2
 have HX2:=Lib.hid (HX1.out.below HB2.out (Nat.le_refl _))
 have HEM:=Lib.hid hem
 obtain ⟨i0,hi,hz0,hz1,hz2⟩:=info_parts infoTK
 clear hW2 hem
 go_upto_region 5 with (at_builtin;rw [← HW2.out];refine wpList_append_lies _ rfl (.tmp 20) (.tmp 27) 65 rfl base 119 i0 (.agg #[.int .i64 0,.string ⟨#[]⟩,.string ⟨#[]⟩,.slice none 0 0,.bool false]) 5 72 Tryz.underlying65 hi hz0 hz1 hz2 rfl (by decide) (.slice a n c) n _ rfl HOW.out ⟨w1.heap.size,0,none⟩ 1 1 [.int .i64 2,.string lbb,.string ⟨#[]⟩,.slice a1 n1 c1,.bool em] rfl rfl HNW2.out (by simp [Value.oneCell']) (by decide) (by unfold maxLen;omega) (by omega) HBW.out _ rfl ?_;intro g3 c3 w3 hown3 hg3 hat3 hlt3;have HA3:=Lib.hid hat3;have HO3:=Lib.hid hown3;have HG3:=Lib.hid hg3;have HX3 : Hid (Box4 w.heap.size lbb txb (.slice a1 n1 c1) (.slice d n2 c2) w3):=Lib.hid (HX2.out.grown hg3 (fun e=>by have:=(HL.out.1.lt _ (by rw [← HN.out];exact e.symm)).2;omega));obtain ⟨y0,y1,y2,y3⟩:=HX3.out.at;clear hown3 hg3 hat3 hlt3)
 have HVA3 : Hid (AtRowS (fun g=>g < base) W2 (.slice a1 n1 c1) al.length 2 (attrCells al)):=Lib.hid (by
  have h:=(HVA.out.keep HB1.out.size (fun g _ hg=>HB1.out.block g hg)).keep HB2.out.size (fun g _ hg=>HB2.out.block g hg)
  rw [← HN1.out] at h ⊢
  exact h)
 have HM3 : Hid (RowW w3 base (.slice (some ⟨g3,0,none⟩) (n + 1) c3) (l ++ [(⟨2,lb,[],al,em⟩,.slice a1 n1 c1)])):=Lib.hid (HL2.out.more (x:=(⟨2,lb,[],al,em⟩,.slice a1 n1 c1)) (v':=.slice (some ⟨g3,0,none⟩) (n + 1) c3) HVA3.out (by have:=HO3.out;rw [HLB.out] at this;rw [← HN.out];exact this) HG3.out)
 have HGT : Hid (GrowsTo w w3 (.slice a n c) (.slice (some ⟨g3,0,none⟩) (n + 1) c3)):=Lib.hid ((GrowsTo.same _ (th HB1.out (Nat.le_refl _) HB2.out)).trans ⟨HG3.out,by
  rcases HA3.out with h | h
  ·exact .inl h.symm
  ·exact .inr ⟨g3,rfl,by omega⟩⟩)
 clear x0 x1 x2 x3
 by_cases h0 : n2 = 0
 ·have he : em = true:=by rw [HEM.out];simp [h0]
  subst he
  have hks : ks = []:=List.eq_nil_of_length_eq_zero (by rw [← HN2.out];exact h0)
  subst hks
  go_wp2
  go_ret
  refine ⟨some ⟨g3,0,none⟩,c3,l ++ [(⟨2,lb,[],al,true⟩,.slice a1 n1 c1)],?_,?_,?_,?_⟩
  ·rw [List.length_append,List.length_singleton,← HN.out];rfl
  ·rw [toksT_empty _ _ hlb];simp
  ·rw [List.length_append,List.length_singleton,← HN.out];exact HM3.out
  ·rw [List.length_append,List.length_singleton,← HN.out];exact HGT.out
 ·have he : em = false:=by rw [HEM.out];simp [h0]
  subst he
  have hkx : ∃ gk ok,d = some ⟨gk,ok,none⟩ ∧ gk < base ∧ gk < w.heap.size ∧ ∀ j u,lk.flatten[j]? = some u → w.cell? ⟨gk,ok + j,none⟩ = some u:=HKX.out (by rw [← HN2.out];omega)
  obtain ⟨gk,ok,rfl,hgb,hgw,hkc⟩:=hkx
  have HKC:=Lib.hid hkc
  have HTOK : Hid (toksT (.node lb tx al ks) = ⟨2,lb,[],al,false⟩ :: (toksK ks ++ [⟨3,lb,[],[],false⟩])):=Lib.hid (by
   cases ks with
   | nil=>exact absurd HN2.out h0
   | cons k q=>exact toksT_kids _ _ _ _ hlb)
  clear hkc
  go_wp2_with fail
  go_loopw [0,34] (fun v i wr=>∃ (k m : Nat) (a' : Option Addr) (c' : Nat) (l' : List (Tok × Value)),k ≤ n2 ∧ m = l'.length ∧ v = .slice a' m c' ∧ i = .int .i64 k ∧ Hid (l'.map (·.1) = l.map (·.1) ++ (⟨2,lb,[],al,false⟩ :: toksK (ks.take k))) ∧ Hid (RowW wr base (.slice a' m c') l') ∧ Hid (GrowsTo w wr (.slice a n c) (.slice a' m c')) ∧ Hid (Box4 w.heap.size lbb txb (.slice a1 n1 c1) (.slice (some ⟨gk,ok,none⟩) n2 c2) wr)) (fun _ i _=>n2 - (intOf i).toNat)
  case atStart=>exact ⟨0,n + 1,some ⟨g3,0,none⟩,c3,l ++ [(⟨2,lb,[],al,false⟩,.slice a1 n1 c1)],by omega,by rw [List.length_append,List.length_singleton,HN.out],rfl,rfl,Lib.hid (by simp [toksK]),HM3,HGT,HX3⟩
  case round=>
   obtain ⟨k,m,a',c',l',hk,hm,rfl,rfl,HMP,HRW,HGR,HXB⟩:=hrel
   have hbB : Below base w wr:=HGR.out.below hb0 (fun g e=>by
    have:=HL.out.1
    rw [← HN.out] at this
    exact (this.lt g e).1)
   have HBB:=Lib.hid hbB
   have HML:=Lib.hid hm
   have hsW:=hbB.size
   clear hbB
   by_cases hlt : k < n2
   ·obtain ⟨t1,ht1⟩ : ∃ t1,ks[k]? = some t1:=⟨_,List.getElem?_eq_getElem (by rw [← HN2.out];exact hlt)⟩
    obtain ⟨h4,htr,hcl⟩:=HLK.out.get k t1 ht1
    obtain ⟨l1,x1,d1,d2,m1,e1,m2,e2,rfl⟩:=htr.four
    have HTR : Hid (TreeS (fun g=>g < base) wr t1 [.string l1,.string x1,.slice d1 m1 e1,.slice d2 m2 e2]):=Lib.hid (htr.keep hsW (fun g hg _=>HBB.out.block g hg))
    have cell : ∀ i v,([.string l1,.string x1,.slice d1 m1 e1,.slice d2 m2 e2] : List Value)[i]? = some v → wr.cell? ⟨gk,ok + k * 4 + i,none⟩ = some v:=fun i v hv=>by
     rw [Nat.add_assoc]
     exact (HBB.out.cell (p:=⟨gk,ok + (k * 4 + i),none⟩) hgb).trans (HKC.out _ _ (hcl i v hv))
    have t0:=cell 0 _ rfl
    have t2:=cell 1 _ rfl
    have t3:=cell 2 _ rfl
    have t4:=cell 3 _ rfl
    rw [Nat.add_zero] at t0
    have hi0 : (0 : Int) ≤ k:=by omega
    have hi1 : (k : Int) < n2:=by omega
    have HT1:=Lib.hid ht1
    obtain ⟨W5,hW5⟩ : ∃ W5,W5 = wr.alloc (.cells #[.string l1,.string x1,.slice d1 m1 e1,.slice d2 m2 e2] 27):=⟨_,rfl⟩
    have HB5 : Hid (Below wr.heap.size wr W5):=Lib.hid (by rw [hW5];exact (Below.refl _ wr).alloc (Nat.le_refl _) _)
    have HX5 : Hid (Box4 wr.heap.size l1 x1 (.slice d1 m1 e1) (.slice d2 m2 e2) W5):=Lib.hid (by rw [hW5];exact Box4.made _ _ _ _ _)
    have HCA:=Lib.hid (HIH.out k t1 ht1 [.string l1,.string x1,.slice d1 m1 e1,.slice d2 m2 e2] W5 a' c' l' (by have:=HB5.out.size;omega) (HTR.out.keep HB5.out.size (fun g hg hl=>HB5.out.block g hl)) (by rw [← hm];exact HRW.out.below HB5.out) (by
     have h1:=HSZ.out
     rw [HTOK.out] at h1
     have h2:=congrArg List.length HMP.out
     rw [List.length_map,List.length_append,List.length_map,List.length_cons] at h2
     have h3 : toksK ks = toksK (ks.take k) ++ (toksT t1 ++ toksK (ks.drop (k + 1))):=by
      conv=>lhs;rw [← List.take_append_drop k ks,toksK_append]
      congr 1
      obtain ⟨hk1,hk2⟩:=List.getElem?_eq_some_iff.1 ht1
      rw [List.drop_eq_getElem_cons hk1,hk2,toksK]
     have h4:=congrArg List.length h3
     simp only [List.length_append,List.length_cons] at h1 h4
     omega))
    rw [← hm] at HCA
    clear cell hcl htr ht1 hm
    go_wp2_with fail
    rw [← hW5]
    clear hW5 t0 t2 t3 t4
    (with_reducible refine HCA.out.mono ?_)
    rintro e w6 ⟨a6,c6,l6,rfl,hmp6,hrw6,hgr6⟩
    have HMP6 : Hid (l6.map (·.1) = l.map (·.1) ++ (⟨2,lb,[],al,false⟩ :: toksK (ks.take (k + 1)))):=Lib.hid (by
     rw [hmp6,HMP.out,List.take_add_one,HT1.out,toksK_append]
     simp [toksK])
    have HRW6:=Lib.hid hrw6
    have HGR6 : Hid (GrowsTo w w6 (.slice a n c) (.slice a6 l6.length c6)):=Lib.hid (HGR.out.trans ((GrowsTo.same _ HB5.out).trans hgr6))
    have HXB6 : Hid (Box4 w.heap.size lbb txb (.slice a1 n1 c1) (.slice (some ⟨gk,ok,none⟩) n2 c2) w6):=Lib.hid ((HXB.out.below HB5.out (Nat.le_refl _)).grown hgr6.1 (own_box (HRW.out.below HB5.out).1 (HXB.out.below HB5.out (Nat.le_refl _)) (by decide)))
    clear hmp6 hrw6 hgr6
    go_wp2
    exact ⟨⟨k + 1,l6.length,a6,c6,l6,by omega,rfl,rfl,by go_num,HMP6,HRW6,HGR6,HXB6⟩,by simp [intOf];omega⟩
   ·obtain rfl : n2 = k:=by omega
    have HMPE : Hid (l'.map (·.1) = l.map (·.1) ++ (⟨2,lb,[],al,false⟩ :: toksK ks)):=Lib.hid (by rw [HMP.out,List.take_of_length_le (by rw [HN2.out];omega)])
    have hm6 : m + 1 ≤ 1000000:=by
     have h1:=HSZ.out
     rw [HTOK.out] at h1
     have h2:=congrArg List.length HMPE.out
     simp only [List.length_map,List.length_append,List.length_cons,List.length_nil] at h1 h2
     omega
    obtain ⟨b0,b1,b2,b3⟩:=HXB.out.at
    obtain ⟨W5,hW5⟩ : ∃ W5,W5 = wr.alloc (.cells #[.int .i64 3,.string lbb,.string ⟨#[]⟩,.slice none 0 0,.bool false] 119):=⟨_,rfl⟩
    have HB5 : Hid (Below wr.heap.size wr W5):=Lib.hid (by rw [hW5];exact (Below.refl _ wr).alloc (Nat.le_refl _) _)
    have HRW5:=Lib.hid (HRW.out.below HB5.out)
    have HNW5 : Hid (∀ j u,[Value.int .i64 3,.string lbb,.string ⟨#[]⟩,.slice none 0 0,.bool false][j]? = some u → W5.cell? ((⟨wr.heap.size,0,none⟩ : Addr).add j) = some u):=Lib.hid (by rw [hW5];exact World.news_of_block (cs:=#[.int .i64 3,.string lbb,.string ⟨#[]⟩,.slice none 0 0,.bool false]) (t:=119) (fr:=(0,0)) (heap_alloc_new wr _))
    have HBW5 : Hid (base ≤ W5.heap.size):=Lib.hid (by have:=HB5.out.size;omega)
    have HOW5 : Hid (W5.ownsRow base 119 5 (.slice a' m c') m (tvCells l')):=Lib.hid (by have:=HRW5.out.1;rw [← HML.out] at this;exact this)
    have HW5:=Lib.hid hW5
    clear hW5 hm
    go_wp2_with (at_builtin;rw [← HW5.out];refine wpList_append_lies _ rfl (.tmp 42) (.tmp 46) 65 rfl base 119 i0 (.agg #[.int .i64 0,.string ⟨#[]⟩,.string ⟨#[]⟩,.slice none 0 0,.bool false]) 5 72 Tryz.underlying65 hi hz0 hz1 hz2 rfl (by decide) (.slice a' m c') m _ rfl HOW5.out ⟨wr.heap.size,0,none⟩ 1 1 [.int .i64 3,.string lbb,.string ⟨#[]⟩,.slice none 0 0,.bool false] rfl rfl HNW5.out (by simp [Value.oneCell']) (by decide) (by unfold maxLen;omega) (by omega) HBW5.out _ rfl ?_;intro g7 c7 w7 hown7 hg7 hat7 hlt7;have HA7:=Lib.hid hat7;have HO7:=Lib.hid hown7;have HG7:=Lib.hid hg7;clear hown7 hg7 hat7 hlt7)
    have HM7 : Hid (RowW w7 base (.slice (some ⟨g7,0,none⟩) (m + 1) c7) (l' ++ [(⟨3,lb,[],[],false⟩,.slice none 0 0)])):=Lib.hid (HRW5.out.more (x:=(⟨3,lb,[],[],false⟩,.slice none 0 0)) (v':=.slice (some ⟨g7,0,none⟩) (m + 1) c7) ⟨none,0,rfl,Nat.le_refl _,rfl,fun h=>absurd h (by simp)⟩ (by have:=HO7.out;rw [HLB.out] at this;rw [← HML.out];exact this) HG7.out)
    go_wp2
    go_ret
    refine ⟨some ⟨g7,0,none⟩,c7,l' ++ [(⟨3,lb,[],[],false⟩,.slice none 0 0)],?_,?_,?_,?_⟩
    ·rw [List.length_append,List.length_singleton,← HML.out];rfl
    ·rw [List.map_append,HMPE.out,HTOK.out];simp
    ·rw [List.length_append,List.length_singleton,← HML.out];exact HM7.out
    ·refine HGR.out.trans ((GrowsTo.same _ HB5.out).trans ⟨HG7.out,?_⟩)
     rw [List.length_append,List.length_singleton,← HML.out]
     rcases HA7.out with h | h
     ·exact .inl h.symm
     ·exact .inr ⟨g7,rfl,by omega⟩
theorem pieces_any {base : Nat} (t : Tr) : ∀ (hs : List Value) (w : World) (a : Option Addr) (c : Nat) (l : List (Tok × Value)),base ≤ w.heap.size → TreeS (fun g=>g < base) w t hs → RowW w base (.slice a l.length c) l → l.length + (toksT t).length ≤ 1000000 →
  Calls Tryz.prog 42 #[.slice a l.length c,.agg hs.toArray] w fun e w'=>PiecesP base (.slice a l.length c) l (toksT t) w e w':=by
 refine Tr.rec (motive_1:=fun t=>∀ (hs : List Value) (w : World) (a : Option Addr) (c : Nat) (l : List (Tok × Value)),base ≤ w.heap.size → TreeS (fun g=>g < base) w t hs → RowW w base (.slice a l.length c) l → l.length + (toksT t).length ≤ 1000000 → Calls Tryz.prog 42 #[.slice a l.length c,.agg hs.toArray] w fun e w'=>PiecesP base (.slice a l.length c) l (toksT t) w e w')
  (motive_2:=fun ks=>∀ (k : Nat) (t : Tr),ks[k]? = some t → ∀ (hs : List Value) (W : World) (a : Option Addr) (c : Nat) (l : List (Tok × Value)),base ≤ W.heap.size → TreeS (fun g=>g < base) W t hs → RowW W base (.slice a l.length c) l → l.length + (toksT t).length ≤ 1000000 → Calls Tryz.prog 42 #[.slice a l.length c,.agg hs.toArray] W fun e w'=>PiecesP base (.slice a l.length c) l (toksT t) W e w') ?_ ?_ ?_ t
 ·intro lb tx al ks ih hs w a c l hb0 ht hl hsz
  by_cases h : lb = []
  ·subst h
   rw [TreeS.eq] at ht
   obtain ⟨va,vk,rfl,_⟩:=ht
   exact pieces_text a c l tx va vk ks al w hb0 hl (by omega)
  ·exact pieces_elem lb tx h al ks ih hs w a c l hb0 ht hl hsz
 ·intro k t h
  simp at h
 ·intro t ks ih1 ih2 k u hu
  cases k with
  | zero=>
   simp only [List.getElem?_cons_zero,Option.some.injEq] at hu
   subst hu
   exact ih1
  | succ k=>exact ih2 k u (by simpa using hu)
end Go.Proofs.YtjldpkhfiffinaaGreatDoor.U
