/- Contracts and plain facts that the law stands on: Sc, Rp, Rp2. -/
import Derived.Test.YtjldpkhfiffinaaGreatDoorZC02
import Derived.Test.YtjldpkhfiffinaaGreatDoorZC05
import Derived.Test.YtjldpkhfiffinaaGreatDoorZC06
import Derived.Deep.QuietTactic
import Derived.BigQuiet
import Derived.Test.YtjldpkhfiffinaaGreatDoorZC01
import Derived.Deep.MidRow
import Derived.Deep.WholeRow
import Derived.Defers
import Derived.Laws.Pointers
import Derived.Laws.LoneSync
import Derived.RegionTactic
import Derived.RegionCalls
namespace Go.Proofs.YtjldpkhfiffinaaGreatDoor.U
open Go.RowKit Go.Shelf
def Mx (w : World) : Prop:=∃ m,w.cell? ⟨2,0,none⟩ = some (.int .i64 m)
structure LayT (w : World) : Prop where
 lay : LayS w
 mx : Mx w
theorem LayT.size {w : World} (h : LayT w) : 6 ≤ w.heap.size:=by
 have h0:=h.lay.size
 obtain ⟨_,h1⟩:=h.mx
 have:=block_lt_of_cell h1
 simp at this
 omega
theorem Mx.drewN {w : World} (h : Mx w) (n : Nat) : Mx (w.drewN n):=by
 obtain ⟨m,hm⟩:=h
 exact ⟨m,hm⟩
theorem LayT.below {w w' : World} {B : Nat} (h : LayT w) (hb : Below B w w') (hB : 6 ≤ B) : LayT w':=
 ⟨h.lay.below hb (by omega),by
  obtain ⟨m,hm⟩:=h.mx
  exact ⟨m,(hb.cell (p:=⟨2,0,none⟩) (by simp;omega)).trans hm⟩⟩
theorem below_of_grown {w w' : World} {b : Nat} (hg : w.grownBy w' (some b)) (hb : b < w.heap.size) : Below b w w':=
 ⟨hg.os,hg.tape,hg.output,hg.size,fun k hk=>hg.block k (by omega) (fun e=>by have:=Option.some.inj e;omega)⟩
theorem LayT.grown {w w' : World} {b : Nat} (h : LayT w) (hg : w.grownBy w' (some b)) (hb : b < w.heap.size) (hB : 6 ≤ b) : LayT w':=
 h.below (below_of_grown hg hb) hB
theorem grow_refl (w : World) (r : Option Nat) : w.grownBy w r:=⟨rfl,rfl,rfl,Nat.le_refl _,fun _ _ _=>rfl⟩
theorem grow_trans {a b c : World} {r : Option Nat} (h : a.grownBy b r) (k : b.grownBy c r) : a.grownBy c r:=
 ⟨k.os.trans h.os,k.tape.trans h.tape,k.output.trans h.output,Nat.le_trans h.size k.size,fun i hi hr=>(k.block i (Nat.lt_of_lt_of_le hi h.size) hr).trans (h.block i hi hr)⟩
theorem grow_below {w w' : World} (h : Below w.heap.size w w') (r : Option Nat) : w.grownBy w' r:=⟨h.os,h.tape,h.output,h.size,fun k hk _=>h.block k hk⟩
theorem grow_set (w : World) (b o : Nat) (u : Value) : w.grownBy (w.setCell ⟨b,o,none⟩ u) (some b):=
 ⟨rfl,rfl,rfl,by simp,fun k _ hr=>Below.heap_setCell w ⟨b,o,none⟩ u k (fun e=>hr (by rw [e]))⟩
theorem grow_drewN (w : World) (n : Nat) (r : Option Nat) : w.grownBy (w.drewN n) r:=⟨rfl,rfl,rfl,Nat.le_refl _,fun _ _ _=>rfl⟩
def BoxS (b : Nat) (doc : ByteArray) (p : Nat) (v : Value) (w : World) : Prop:=w.heap[b]? = some (.cells #[.string doc,.int .i64 p,v] 118 (0,0))
theorem BoxS.at {b p : Nat} {doc : ByteArray} {v : Value} {w : World} (h : BoxS b doc p v w) :
  w.cell? ⟨b,0,none⟩ = some (.string doc) ∧ w.cell? ⟨b,1,none⟩ = some (.int .i64 p) ∧ w.cell? ⟨b,2,none⟩ = some v ∧ w.frozen? ⟨b,0,none⟩ = false ∧ w.frozen? ⟨b,1,none⟩ = false ∧ w.frozen? ⟨b,2,none⟩ = false:=
 ⟨by rw [Lib.cell_of_heap h];rfl,by rw [Lib.cell_of_heap h];rfl,by rw [Lib.cell_of_heap h];rfl,Lib.frozen_of_heap h 0,Lib.frozen_of_heap h 1,Lib.frozen_of_heap h 2⟩
theorem BoxS.lt {b p : Nat} {doc : ByteArray} {v : Value} {w : World} (h : BoxS b doc p v w) : b < w.heap.size:=(Array.getElem?_eq_some_iff.1 h).1
theorem BoxS.below {b p : Nat} {doc : ByteArray} {v : Value} {w w' : World} (h : BoxS b doc p v w) (hb : Below w.heap.size w w') : BoxS b doc p v w':=(hb.block b h.lt).trans h
theorem BoxS.drewN {b p : Nat} {doc : ByteArray} {v : Value} {w : World} (h : BoxS b doc p v w) (n : Nat) : BoxS b doc p v (w.drewN n):=h
theorem BoxS.set {b p : Nat} {doc : ByteArray} {v : Value} {w : World} (h : BoxS b doc p v w) (p' : Nat) : BoxS b doc p' v (w.setCell ⟨b,1,none⟩ (.int .i64 p')):=by
 unfold BoxS at h ⊢
 simp [World.setCell,Array.getElem?_modify,h]
structure Moves (b : Nat) (doc : ByteArray) (v : Value) (p' : Nat) (w w' : World) : Prop where
 grown : w.grownBy w' (some b)
 box : BoxS b doc p' v w'
theorem Moves.trans {b p q : Nat} {doc : ByteArray} {v : Value} {w w1 w2 : World} (h : Moves b doc v p w w1) (k : Moves b doc v q w1 w2) : Moves b doc v q w w2:=⟨grow_trans h.grown k.grown,k.box⟩
theorem Moves.below {b p : Nat} {doc : ByteArray} {v : Value} {w w1 w2 : World} (h : Moves b doc v p w w1) (k : Below w1.heap.size w1 w2) : Moves b doc v p w w2:=⟨grow_trans h.grown (grow_below k _),h.box.below k⟩
theorem beg_pre (s x : ByteArray) (p : Nat) : Lib.hasPrefix (s.extract p s.size).data.toList x.data.toList = begL (bts x) ((bts s).drop p):=by
 show (bts x).isPrefixOf (bts (s.extract p s.size)) = (bts x).isPrefixOf ((bts s).drop p)
 rw [bts_extract,List.take_of_length_le (by rw [bts_len];omega)]
theorem hasPrefix_any (s x : ByteArray) (w : World) : Calls Tryz.prog 132 #[.string s,.string x] w fun e w'=>e = .returned (.bool (begL (bts x) (bts s))) ∧ w = w':=
 (S.strings_HasPrefix s x w).mono fun _ _ ⟨h1,h2⟩=>⟨h1,h2.symm⟩
theorem index_find (x : List UInt8) : ∀ l : List UInt8,Lib.index l x = match findL x l with | some e=>(e : Int) | none=>-1:=by
 intro l
 induction l with
 | nil=>
  simp only [Lib.index,findL]
  cases x with
  | nil=>rfl
  | cons a t=>rfl
 | cons c t ih=>
  simp only [Lib.index,findL]
  rw [ih]
  by_cases h : x.isPrefixOf (c :: t) = true
  ·rw [if_pos h,if_pos (show begL x (c :: t) = true from h)]
   rfl
  ·rw [if_neg h,if_neg (show ¬ begL x (c :: t) = true from h)]
   cases findL x t with
   | none=>rfl
   | some e=>
    simp only [Option.map_some]
    rw [if_neg (by simp)]
    rfl
theorem cut_some {x l : List UInt8} {e : Nat} (h : findL x l = some e) : Lib.cut l x = (l.take e,l.drop (e + x.length),true):=by
 unfold Lib.cut
 rw [index_find,h]
 simp only
 rw [if_pos (by omega)]
 simp
theorem cut_none {x l : List UInt8} (h : findL x l = none) : Lib.cut l x = (l,[],false):=by
 unfold Lib.cut
 rw [index_find,h]
 rfl
theorem contains_find (x l : List UInt8) : Lib.contains l x = (findL x l).isSome:=by
 unfold Lib.contains
 rw [index_find]
 cases findL x l <;> simp
set_option maxHeartbeats 1000000 in
theorem more_any (b p : Nat) (doc : ByteArray) (v : Value) (w : World) (h : BoxS b doc p v w) :
  Calls Tryz.prog 58 #[.pointer (some ⟨b,0,none⟩)] w fun e w'=>e = .returned (.bool (decide (p < doc.size))) ∧ ∃ n,w' = w.drewN n:=by
 obtain ⟨c0,c1,c2,f0,f1,f2⟩:=h.at
 by_cases hlt : p < doc.size
 ·rw [decide_eq_true hlt]
  go_enter Tryz.func58,Tryz.ntmps58
  go_wp2_with fail
  go_quiet (fail)
  go_wp2
  go_ret
  exact ⟨rfl,_,rfl⟩
 ·rw [decide_eq_false hlt]
  go_enter Tryz.func58,Tryz.ntmps58
  go_wp2_with fail
  go_quiet (fail)
  go_wp2
  go_ret
  exact ⟨rfl,_,rfl⟩
theorem moves_set {b p : Nat} {doc : ByteArray} {v : Value} {w : World} (h : BoxS b doc p v w) (n q : Nat) {z : Int} (hz : z = q) : Moves b doc v q w ((w.drewN n).setCell ⟨b,1,none⟩ (.int .i64 z)):=by
 subst hz
 exact ⟨grow_trans (grow_drewN w n _) (grow_set _ _ _ _),(h.drewN n).set q⟩
theorem moves_stay {b p : Nat} {doc : ByteArray} {v : Value} {w : World} (h : BoxS b doc p v w) (n : Nat) : Moves b doc v p w (w.drewN n):=⟨grow_drewN w n _,h.drewN n⟩
theorem rest_bts {s : ByteArray} {p : Nat} : bts (s.extract p s.size) = (bts s).drop p:=by rw [bts_extract,List.take_of_length_le (by rw [bts_len];omega)]
set_option maxHeartbeats 1000000 in
theorem skip_yes (b p : Nat) (doc x : ByteArray) (v : Value) (w : World) (h : BoxS b doc p v w) (hp : p ≤ doc.size) (hs : doc.size ≤ 100000) (hb : begL (bts x) ((bts doc).drop p) = true) :
  Calls Tryz.prog 107 #[.pointer (some ⟨b,0,none⟩),.string x] w fun e w'=>e = .returned (.bool true) ∧ Moves b doc v (p + x.size) w w':=by
 have hx:=begL_len hb
 rw [List.length_drop,bts_len,bts_len] at hx
 have HH : Hid (∀ W,Calls Tryz.prog 132 #[.string (doc.extract p doc.size),.string x] W fun e w'=>e = .returned (.bool true) ∧ w' = W):=Lib.hid (fun W=>(hasPrefix_any _ x W).mono (by
  rintro e w' ⟨h1,h2⟩
  rw [rest_bts,hb] at h1
  exact ⟨h1,h2.symm⟩))
 have HB:=Lib.hid h
 obtain ⟨c0,c1,c2,f0,f1,f2⟩:=h.at
 clear h hb
 go_enter Tryz.func107,Tryz.ntmps107
 go_wp2_with fail
 go_quiet ((go_at_call 132;exact Calls.quiet_of_same (HH.out _)))
 go_wp2
 go_ret
 exact ⟨rfl,moves_set HB.out _ _ (by omega)⟩
set_option maxHeartbeats 1000000 in
theorem skip_no (b p : Nat) (doc x : ByteArray) (v : Value) (w : World) (h : BoxS b doc p v w) (hp : p ≤ doc.size) (_hs : doc.size ≤ 100000) (hb : begL (bts x) ((bts doc).drop p) = false) :
  Calls Tryz.prog 107 #[.pointer (some ⟨b,0,none⟩),.string x] w fun e w'=>e = .returned (.bool false) ∧ Moves b doc v p w w':=by
 have HH : Hid (∀ W,Calls Tryz.prog 132 #[.string (doc.extract p doc.size),.string x] W fun e w'=>e = .returned (.bool false) ∧ w' = W):=Lib.hid (fun W=>(hasPrefix_any _ x W).mono (by
  rintro e w' ⟨h1,h2⟩
  rw [rest_bts,hb] at h1
  exact ⟨h1,h2.symm⟩))
 have HB:=Lib.hid h
 obtain ⟨c0,c1,c2,f0,f1,f2⟩:=h.at
 clear h hb
 go_enter Tryz.func107,Tryz.ntmps107
 go_wp2_with fail
 go_quiet ((go_at_call 132;exact Calls.quiet_of_same (HH.out _)))
 go_wp2
 go_ret
 exact ⟨rfl,moves_stay HB.out _⟩
theorem cut_c {s x : ByteArray} {w : World} (hm : Mx w) (hs : s.size ≤ 1000000) (n : Nat) (y z : List UInt8) (ok : Bool) (hr : Lib.cut (bts s) (bts x) = (y,z,ok)) :
  Calls Tryz.prog 133 #[.string s,.string x] (w.drewN n) fun e w'=>e = .returned (.tuple #[.string ⟨y.toArray⟩,.string ⟨z.toArray⟩,.bool ok]) ∧ ∃ m,w' = w.drewN m:=by
 obtain ⟨m,hm⟩:=hm.drewN n
 refine Calls.quiet_of ((S.strings_Cut s x m _ (by omega) hm).mono ?_)
 rintro e w' ⟨h1,h2⟩
 refine ⟨?_,h2⟩
 rw [h1]
 show Ending.returned (.tuple #[.string ⟨(Lib.cut (bts s) (bts x)).1.toArray⟩,.string ⟨(Lib.cut (bts s) (bts x)).2.1.toArray⟩,.bool (Lib.cut (bts s) (bts x)).2.2]) = _
 rw [hr]
set_option maxHeartbeats 1000000 in
theorem until_some (b p k : Nat) (doc x : ByteArray) (v : Value) (w : World) (hm : Mx w) (h : BoxS b doc p v w) (hp : p ≤ doc.size) (hs : doc.size ≤ 100000) (hb : findL (bts x) ((bts doc).drop p) = some k) :
  Calls Tryz.prog 126 #[.pointer (some ⟨b,0,none⟩),.string x] w fun e w'=>e = .returned (.tuple #[.string ⟨(((bts doc).drop p).take k).toArray⟩,.bool true]) ∧ Moves b doc v (p + (k + x.size)) w w':=by
 have hx:=findL_len hb
 rw [List.length_drop,bts_len,bts_len] at hx
 have HC:=Lib.hid (fun n=>cut_c (s:=doc.extract p doc.size) (x:=x) hm (by rw [ByteArray.size_extract];omega) n (((bts doc).drop p).take k) (((bts doc).drop p).drop (k + (bts x).length)) true (by rw [rest_bts];exact cut_some hb))
 have HS : Hid ((⟨(((bts doc).drop p).take k).toArray⟩ : ByteArray).size = k):=Lib.hid (by rw [← bts_len,bts_mk,List.length_take,List.length_drop,bts_len];omega)
 have HB:=Lib.hid h
 obtain ⟨c0,c1,c2,f0,f1,f2⟩:=h.at
 generalize (⟨(((bts doc).drop p).take k).toArray⟩ : ByteArray) = y at HS HC ⊢
 have hy : y.size ≤ 100000:=by have:=HS.out;omega
 clear h hb hm
 go_enter Tryz.func126,Tryz.ntmps126
 go_wp2_with fail
 go_quiet ((go_at_call 133;exact HC.out _))
 go_wp2
 go_ret2
 exact ⟨rfl,moves_set HB.out _ _ (by have:=HS.out;omega)⟩
set_option maxHeartbeats 1000000 in
theorem until_none (b p : Nat) (doc x : ByteArray) (v : Value) (w : World) (hm : Mx w) (h : BoxS b doc p v w) (hp : p ≤ doc.size) (hs : doc.size ≤ 100000) (hb : findL (bts x) ((bts doc).drop p) = none) :
  Calls Tryz.prog 126 #[.pointer (some ⟨b,0,none⟩),.string x] w fun e w'=>e = .returned (.tuple #[.string (doc.extract p doc.size),.bool false]) ∧ Moves b doc v p w w':=by
 have HC:=Lib.hid (fun n=>cut_c (s:=doc.extract p doc.size) (x:=x) hm (by rw [ByteArray.size_extract];omega) n ((bts doc).drop p) [] false (by rw [rest_bts];exact cut_none hb))
 have HS : Hid ((⟨((bts doc).drop p).toArray⟩ : ByteArray) = doc.extract p doc.size):=Lib.hid (by rw [← rest_bts,mk_bts])
 simp only [HS.out] at HC
 have HB:=Lib.hid h
 obtain ⟨c0,c1,c2,f0,f1,f2⟩:=h.at
 clear h hb hm HS
 go_enter Tryz.func126,Tryz.ntmps126
 go_wp2_with fail
 go_quiet ((go_at_call 133;exact HC.out _))
 go_wp2
 go_ret2
 exact ⟨rfl,moves_stay HB.out _⟩
set_option maxHeartbeats 1000000 in
theorem ends_any (b p : Nat) (doc : ByteArray) (v : Value) (w : World) (h : BoxS b doc p v w) (hp : p ≤ doc.size) :
  Calls Tryz.prog 129 #[.pointer (some ⟨b,0,none⟩)] w fun e w'=>e = .returned (.bool (begL [47,62] ((bts doc).drop p) || begL [62] ((bts doc).drop p))) ∧ Moves b doc v p w w':=by
 have HB:=Lib.hid h
 obtain ⟨c0,c1,c2,f0,f1,f2⟩:=h.at
 have H1 : Hid (∀ W,Calls Tryz.prog 132 #[.string (doc.extract p doc.size),.string ⟨#[47,62]⟩] W fun e w'=>e = .returned (.bool (begL [47,62] ((bts doc).drop p))) ∧ W = w'):=Lib.hid (fun W=>by
  have:=hasPrefix_any (doc.extract p doc.size) ⟨#[47,62]⟩ W
  rw [rest_bts] at this;exact this)
 have H2 : Hid (∀ W,Calls Tryz.prog 132 #[.string (doc.extract p doc.size),.string ⟨#[62]⟩] W fun e w'=>e = .returned (.bool (begL [62] ((bts doc).drop p))) ∧ W = w'):=Lib.hid (fun W=>by
  have:=hasPrefix_any (doc.extract p doc.size) ⟨#[62]⟩ W
  rw [rest_bts] at this;exact this)
 clear h
 generalize begL [47,62] ((bts doc).drop p) = q at H1 ⊢
 generalize begL [62] ((bts doc).drop p) = q2 at H2 ⊢
 go_enter Tryz.func129,Tryz.ntmps129
 go_wp2_with fail
 go_quiet (fail)
 go_wp2_with fail
 refine (H1.out _).mono ?_
 rintro e w2 ⟨rfl,rfl⟩
 cases q with
 | true=>
  go_wp2
  go_ret
  exact ⟨rfl,moves_stay HB.out _⟩
 | false=>
  go_wp2_with fail
  refine (H2.out _).mono ?_
  rintro e w2 ⟨rfl,rfl⟩
  go_wp2
  go_ret
  exact ⟨rfl,moves_stay HB.out _⟩
def BoxR (g : Nat) (d s : Int) (rv ov : Value) (w : World) : Prop:=w.heap[g]? = some (.cells #[.int .u32 d,.int .i32 s,.int .u32 0,rv,ov] 223 (0,0))
theorem BoxR.at {g : Nat} {d s : Int} {rv ov : Value} {w : World} (h : BoxR g d s rv ov w) :
  (w.cell? ⟨g,0,none⟩ = some (.int .u32 d) ∧ w.cell? ⟨g,1,none⟩ = some (.int .i32 s) ∧ w.cell? ⟨g,3,none⟩ = some rv ∧ w.cell? ⟨g,4,none⟩ = some ov) ∧
  w.frozen? ⟨g,0,none⟩ = false ∧ w.frozen? ⟨g,1,none⟩ = false ∧ w.frozen? ⟨g,3,none⟩ = false ∧ w.frozen? ⟨g,4,none⟩ = false:=
 ⟨⟨by rw [Lib.cell_of_heap h];rfl,by rw [Lib.cell_of_heap h];rfl,by rw [Lib.cell_of_heap h];rfl,by rw [Lib.cell_of_heap h];rfl⟩,Lib.frozen_of_heap h 0,Lib.frozen_of_heap h 1,Lib.frozen_of_heap h 3,Lib.frozen_of_heap h 4⟩
theorem BoxR.lt {g : Nat} {d s : Int} {rv ov : Value} {w : World} (h : BoxR g d s rv ov w) : g < w.heap.size:=(Array.getElem?_eq_some_iff.1 h).1
theorem BoxR.below {g : Nat} {d s : Int} {rv ov : Value} {w w' : World} (h : BoxR g d s rv ov w) (hb : Below w.heap.size w w') : BoxR g d s rv ov w':=(hb.block g h.lt).trans h
def FourS (a : Nat) (w : World) : Prop:=w.cell? ⟨a,0,none⟩ = some (.string ⟨#[9]⟩) ∧ w.cell? ⟨a,1,none⟩ = some (.string ⟨#[32]⟩) ∧ w.cell? ⟨a,2,none⟩ = some (.string ⟨#[10]⟩) ∧ w.cell? ⟨a,3,none⟩ = some (.string ⟨#[32]⟩)
def TabAt (t : Nat) (f : Nat → Nat) (n : Nat) (w : World) : Prop:=∃ C : Array Value,w.heap[t]? = some (.cells C 262 (0,0)) ∧ C.size = 256 ∧ ∀ j,j < n → C[j]? = some (.int .u8 (f j))
theorem TabAt.set {t : Nat} {f g : Nat → Nat} {n m k x : Nat} {w : World} (h : TabAt t f n w) (hk : k < 256) (hm : ∀ j,j < m → j ≠ k → j < n ∧ f j = g j) (hx : x = g k) : TabAt t g m (w.setCell ⟨t,k,none⟩ (.int .u8 x)):=by
 obtain ⟨C,h1,h2,h3⟩:=h
 refine ⟨C.setIfInBounds k (.int .u8 x),?_,by simp [h2],fun j hj=>?_⟩
 ·simp [World.setCell,Array.getElem?_modify,h1]
 ·rw [Array.getElem?_setIfInBounds]
  by_cases e : k = j
  ·subst e;rw [if_pos rfl,if_pos (by omega),hx]
  ·rw [if_neg e]
   obtain ⟨h4,h5⟩:=hm j hj (fun e2=>e e2.symm)
   rw [h3 j h4,h5]
theorem TabAt.cell {t : Nat} {f : Nat → Nat} {n k : Nat} {w : World} (h : TabAt t f n w) (hk : k < 256) : (∃ u,w.cell? ⟨t,k,none⟩ = some u) ∧ w.frozen? ⟨t,k,none⟩ = false ∧ (k < n → w.cell? ⟨t,k,none⟩ = some (.int .u8 (f k))):=by
 obtain ⟨C,h1,h2,h3⟩:=h
 refine ⟨⟨C[k]'(by omega),?_⟩,Lib.frozen_of_heap h1 k,fun hn=>?_⟩
 ·rw [Lib.cell_of_heap h1];simp
 ·rw [Lib.cell_of_heap h1];exact h3 k hn
theorem TabAt.lt {t : Nat} {f : Nat → Nat} {n : Nat} {w : World} (h : TabAt t f n w) : t < w.heap.size:=by obtain ⟨C,h1,_⟩:=h;exact (Array.getElem?_eq_some_iff.1 h1).1
theorem TabAt.below {t : Nat} {f : Nat → Nat} {n : Nat} {w w' : World} (h : TabAt t f n w) (hb : Below w.heap.size w w') : TabAt t f n w':=by
 have hl:=h.lt
 obtain ⟨C,h1,h2⟩:=h
 exact ⟨C,(hb.block t hl).trans h1,h2⟩
def tabF (j : Nat) : Nat:=if j = 9 ∨ j = 10 then 32 else j
set_option maxHeartbeats 4000000 in
set_option maxRecDepth 20000 in
theorem build_any (g a cap : Nat) (d s : Int) (rv : Value) (w : World) (h : BoxR g d s rv (.slice (some ⟨a,0,none⟩) 4 cap) w) (hf : FourS a w) :
  Calls Tryz.prog 194 #[.pointer (some ⟨g,0,none⟩)] w fun e w'=>∃ t,e = .returned (.iface 263 (.pointer (some ⟨t,0,none⟩))) ∧ w.heap.size ≤ t ∧ TabAt t tabF 256 w' ∧ Below w.heap.size w w':=by
 obtain ⟨⟨c0,c1,c3,c4⟩,f0,f1,f3,f4⟩:=h.at
 obtain ⟨t0,t1,t2,t3⟩:=hf
 clear h
 have hst:=fun W : World=>run_storeCells_new (P:=Tryz.prog) W 262 Tryz.zeroCells262 Tryz.zeroCells262 (by kernel_rfl) rfl (by kernel_rfl)
 have hB1 : Below w.heap.size w (w.alloc (.cells Tryz.zeroCells262 262)):=(Below.refl _ w).alloc (Nat.le_refl _) _
 have HT1 : Hid (TabAt w.heap.size (fun j=>j) 0 (w.alloc (.cells Tryz.zeroCells262 262))):=Lib.hid ⟨Tryz.zeroCells262,heap_alloc_last w _,Tryz.zeroCells262_size,fun j hj=>by omega⟩
 have HB1:=Lib.hid hB1
 clear hB1
 go_enter Tryz.func194,Tryz.ntmps194
 go_wp2_with fail
 refine wp_loop_rounds 3 ?_
 rw [rounds_succ]
 go_wp2_with fail
 rw [rounds_succ]
 go_wp2_with fail
 rw [rounds_succ]
 go_wp2_with fail
 go_loopw [61] (fun i wr=>∃ k : Nat,k ≤ 256 ∧ i = .int .i64 k ∧ Hid (TabAt w.heap.size (fun j=>j) k wr) ∧ Hid (Below w.heap.size w wr)) (fun i _=>256 - (intOf i).toNat)
 case atStart=>exact ⟨0,by omega,rfl,HT1,HB1⟩
 case round=>
  obtain ⟨k,hk,rfl,HT,HB⟩:=hrel
  by_cases hlt : k < 256
  ·obtain ⟨⟨u,q0⟩,q1,_⟩:=HT.out.cell hlt
   have hw : IntKind.u8.wrap (k : Int) = (k : Int):=wrap_u8_in _ (by omega) (by omega)
   go_wp2
   exact ⟨⟨k + 1,by omega,by go_num,Lib.hid (HT.out.set hlt (fun j hj hne=>⟨by omega,rfl⟩) rfl),Lib.hid (HB.out.setCell (p:=⟨w.heap.size,k,none⟩) (Nat.le_refl _) _)⟩,by simp [intOf];omega⟩
  ·obtain rfl : k = 256:=by omega
   have hup : ∀ {p : Addr} {u : Value},w.cell? p = some u → wr.cell? p = some u:=fun h=>(HB.out.cell (block_lt_of_cell h)).trans h
   have d0:=hup t0
   have d1:=hup t1
   have d2:=hup t2
   have d3:=hup t3
   clear hup t0 t1 t2 t3 c0 c1 c3 c4 f0 f1 f3 f4
   obtain ⟨⟨u10,q10⟩,p10,_⟩:=HT.out.cell (k:=10) (by omega)
   obtain ⟨⟨u9,q9⟩,p9,_⟩:=HT.out.cell (k:=9) (by omega)
   have hT2:=HT.out.set (k:=10) (x:=32) (m:=256) (g:=fun j=>if j = 10 then 32 else j) (by omega) (fun j hj hne=>⟨hj,by simp [hne]⟩) rfl
   have hT3:=Lib.hid (hT2.set (k:=9) (x:=32) (m:=256) (g:=tabF) (by omega) (fun j hj hne=>⟨hj,by simp [tabF,hne]⟩) rfl)
   clear hT2
   have b10 : ∀ h,((⟨#[10]⟩ : ByteArray)[0]'h).toNat = 10:=fun _=>rfl
   have b9 : ∀ h,((⟨#[9]⟩ : ByteArray)[0]'h).toNat = 9:=fun _=>rfl
   have b32 : ∀ h,((⟨#[32]⟩ : ByteArray)[0]'h).toNat = 32:=fun _=>rfl
   go_wp2_with fail
   refine wp_loop_rounds 3 ?_
   rw [rounds_succ]
   go_wp2_with fail
   rw [rounds_succ]
   go_wp2_with fail
   rw [rounds_succ]
   go_wp2_with fail
   go_ret
   exact ⟨_,rfl,Nat.le_refl _,hT3.out,(HB.out.setCell (p:=⟨w.heap.size,10,none⟩) (Nat.le_refl _) _).setCell (p:=⟨w.heap.size,9,none⟩) (Nat.le_refl _) _⟩
theorem BoxR.set3 {g : Nat} {d s : Int} {rv ov : Value} {w : World} (h : BoxR g d s rv ov w) (x : Value) : BoxR g d s x ov (w.setCell ⟨g,3,none⟩ x):=by
 unfold BoxR at h ⊢
 simp [World.setCell,Array.getElem?_modify,h]
theorem BoxR.set4 {g : Nat} {d s : Int} {rv ov : Value} {w : World} (h : BoxR g d s rv ov w) (x : Value) : BoxR g d s rv x (w.setCell ⟨g,4,none⟩ x):=by
 unfold BoxR at h ⊢
 simp [World.setCell,Array.getElem?_modify,h]
theorem BoxR.set0 {g : Nat} {d s : Int} {rv ov : Value} {w : World} (h : BoxR g d s rv ov w) (x : Int) : BoxR g x s rv ov (w.setCell ⟨g,0,none⟩ (.int .u32 x)):=by
 unfold BoxR at h ⊢
 simp [World.setCell,Array.getElem?_modify,h]
theorem BoxR.set1 {g : Nat} {d s : Int} {rv ov : Value} {w : World} (h : BoxR g d s rv ov w) (x : Int) : BoxR g d x rv ov (w.setCell ⟨g,1,none⟩ (.int .i32 x)):=by
 unfold BoxR at h ⊢
 simp [World.setCell,Array.getElem?_modify,h]
def Built (g : Nat) (d s : Int) (w w' : World) : Prop:=
 ∃ t,BoxR g d s (.iface 263 (.pointer (some ⟨t,0,none⟩))) (.slice none 0 0) w' ∧ TabAt t tabF 256 w' ∧ w.heap.size ≤ t ∧ w.grownBy w' (some g)
set_option maxHeartbeats 1000000 in
theorem buildOnce_any (g a cap : Nat) (d s : Int) (rv : Value) (w : World) (h : BoxR g d s rv (.slice (some ⟨a,0,none⟩) 4 cap) w) (hf : FourS a w) :
  Calls Tryz.prog 174 #[.pointer (some ⟨g,0,none⟩)] w fun e w'=>e = .returned (.tuple #[]) ∧ Built g d s w w':=by
 have HB:=Lib.hid (build_any g a cap d s rv w h hf)
 have H:=Lib.hid h
 clear h hf
 go_enter Tryz.func174,Tryz.ntmps174
 go_wp2_with fail
 refine HB.out.mono ?_
 rintro e w2 ⟨t,rfl,ht,hT,hb⟩
 have H2:=Lib.hid (H.out.below hb)
 have HT:=Lib.hid hT
 have HBB:=Lib.hid hb
 have HTL:=Lib.hid ht
 have H3:=Lib.hid ((H2.out.set3 (.iface 263 (.pointer (some ⟨t,0,none⟩)))).set4 (.slice none 0 0))
 clear hT hb ht
 obtain ⟨⟨c0,c1,c3,c4⟩,f0,f1,f3,f4⟩:=H2.out.at
 go_wp2
 go_end0
 refine ⟨rfl,t,H3.out,?_,HTL.out,grow_trans (grow_trans (grow_below HBB.out _) (grow_set _ _ _ _)) (grow_set _ _ _ _)⟩
 obtain ⟨C,h1,h2⟩:=HT.out
 have hg:=H.out.lt
 have htl:=HTL.out
 exact ⟨C,(Below.heap_setCell _ ⟨g,4,none⟩ _ t (by simp;omega)).trans ((Below.heap_setCell _ ⟨g,3,none⟩ _ t (by simp;omega)).trans h1),h2⟩
theorem disable (w : World) : (callFunc 221 #[]).run Tryz.prog w = .ok (.value (.tuple #[])) w:=run_call_mark0 Tryz.func221 (by kernel_rfl) (by kernel_rfl) (by kernel_rfl) .disable (by kernel_rfl) w
theorem enable (w : World) : (callFunc 223 #[]).run Tryz.prog w = .ok (.value (.tuple #[])) w:=run_call_mark0 Tryz.func223 (by kernel_rfl) (by kernel_rfl) (by kernel_rfl) .enable (by kernel_rfl) w
theorem acquire (a : Addr) (w : World) : (callFunc 224 #[.pointer (some a)]).run Tryz.prog w = .ok (.value (.tuple #[])) w:=run_call_marked Tryz.func224 (by kernel_rfl) (by kernel_rfl) (by kernel_rfl) .acquire (by kernel_rfl) a w
theorem releaseMerge (a : Addr) (w : World) : (callFunc 226 #[.pointer (some a)]).run Tryz.prog w = .ok (.value (.tuple #[])) w:=run_call_marked Tryz.func226 (by kernel_rfl) (by kernel_rfl) (by kernel_rfl) .releaseMerge (by kernel_rfl) a w
theorem store_deferred (a : Addr) (x : Value) (u : FrameMode) (w : World) (hc : w.cell? a = some x) (hz : w.frozen? a = false) :
  CallsD Tryz.prog 207 #[.pointer (some a),.bool true] u w fun e u' w'=>u' = u ∧ (e = .returned (.tuple #[]) ∧ w' = w.drew.setCell a (.int .u32 1)):=by
 have hc' : w.drew.cell? a = some x:=by go_simp
 have hz' : w.drew.frozen? a = false:=by go_simp
 have hst:=run_call_store (P:=Tryz.prog) Tryz.func215 (by kernel_rfl) (by kernel_rfl) (by kernel_rfl) (by kernel_rfl) (k:=.u32) (y:=1) hc' hz'
 go_enter_d Tryz.func207,Tryz.ntmps207
 go_wp2
 go_region_calls
 all_goals (go_end0;exact ⟨rfl,rfl⟩)
set_option maxRecDepth 20000 in
theorem unlock_deferred (a : Addr) (u : FrameMode) (w : World) (hc : w.cell? a = some (.int .i32 1)) (hz : w.frozen? a = false) :
  CallsD Tryz.prog 206 #[.pointer (some a)] u w fun e u' w'=>u' = u ∧ (e = .returned (.tuple #[]) ∧ w' = w.setCell a (.int .i32 0)):=by
 have hd:=disable
 have he:=enable
 have hr:=releaseMerge
 have hadd:=run_call_add (P:=Tryz.prog) Tryz.func227 (by kernel_rfl) (by kernel_rfl) (by kernel_rfl) .i32 (by kernel_rfl) (y:=-1) (s:=0) hc hz (by simp [go_sem];rfl)
 have hcv:=run_convert_to_unsafe (P:=Tryz.prog) (src:=287) (dst:=167) Tryz.underlying287 Tryz.underlying167 (by kernel_rfl) hc
 go_enter_d Tryz.func206,Tryz.ntmps206
 go_wp2
 go_end0
 go_wp2
 go_end0
 exact ⟨rfl,rfl⟩
set_option maxRecDepth 20000 in
theorem lock_free (a : Addr) (w : World) (hc : w.cell? a = some (.int .i32 0)) (hz : w.frozen? a = false) :
  Calls Tryz.prog 205 #[.pointer (some a)] w fun e w'=>e = .returned (.tuple #[]) ∧ w' = w.setCell a (.int .i32 1):=by
 have hd:=disable
 have he:=enable
 have ha:=acquire
 have hcas:=run_call_cas_hit (P:=Tryz.prog) Tryz.func222 (by kernel_rfl) (by kernel_rfl) (by kernel_rfl) .i32 (by kernel_rfl) (y:=1) hc hz
 have hc' : (w.setCell a (.int .i32 1)).cell? a = some (.int .i32 1):=World.cell?_setCell_same w a _ hc
 have hcv:=run_convert_to_unsafe (P:=Tryz.prog) (src:=287) (dst:=167) Tryz.underlying287 Tryz.underlying167 (by kernel_rfl) hc'
 go_enter Tryz.func205,Tryz.ntmps205
 go_wp2
 first | go_end0 | (simp only [Exit.inBlock,Exit.then];refine bodyPost_ret (results_none rfl _ _ _) rfl ?_) | refine bodyPost_ret (results_none rfl _ _ _) rfl ?_
 go_wp2
 go_end0
 exact ⟨rfl,rfl⟩
theorem load_zero (a : Addr) (w : World) (h0 : w.cell? a = some (.int .u32 0)) :
  Calls Tryz.prog 192 #[.pointer (some a)] w fun e w'=>e = .returned (.bool false) ∧ w = w':=by
 have hl:=run_call_load (P:=Tryz.prog) Tryz.func204 (by kernel_rfl) (by kernel_rfl) (by kernel_rfl) .u32 (by kernel_rfl) h0
 go_enter Tryz.func192,Tryz.ntmps192
 go_wp2
 go_ret
 exact ⟨rfl,rfl⟩
set_option maxRecDepth 100000 in
set_option maxHeartbeats 1600000 in
theorem slow_any (g a cap : Nat) (w : World) (h : BoxR g 0 0 .nilIface (.slice (some ⟨a,0,none⟩) 4 cap) w) (hf : FourS a w) (ha : a ≠ g) :
  Calls Tryz.prog 193 #[.pointer (some ⟨g,0,none⟩),.func (.func 174) #[.pointer (some ⟨g,0,none⟩)] #[]] w fun e w'=>e = .returned (.tuple #[]) ∧ Built g 1 0 w w':=by
 have H1:=Lib.hid (h.set1 1)
 have HF : Hid (FourS a (w.setCell ⟨g,1,none⟩ (.int .i32 1))):=Lib.hid ⟨(World.cell?_setCell_other _ ⟨g,1,none⟩ _ _ (by simp)).trans hf.1,(World.cell?_setCell_other _ ⟨g,1,none⟩ _ _ (by simp)).trans hf.2.1,(World.cell?_setCell_other _ ⟨g,1,none⟩ _ _ (by simp)).trans hf.2.2.1,(World.cell?_setCell_other _ ⟨g,1,none⟩ _ _ (by simp)).trans hf.2.2.2⟩
 have HO:=Lib.hid (buildOnce_any g a cap 0 1 .nilIface _ H1.out HF.out)
 obtain ⟨⟨c0,c1,c3,c4⟩,f0,f1,f3,f4⟩:=h.at
 obtain ⟨⟨d0,d1,d3,d4⟩,g0,g1,g3,g4⟩:=H1.out.at
 have HL:=Lib.hid (load_zero ⟨g,0,none⟩ _ d0)
 clear h hf
 go_enter_defers Tryz.func193,Tryz.ntmps193
 go_wp2_with fail
 refine (lock_free ⟨g,1,none⟩ _ c1 f1).mono ?_
 rintro e w' ⟨rfl,rfl⟩
 go_wp2_with fail
 refine HL.out.mono ?_
 rintro e w2 ⟨rfl,rfl⟩
 go_wp2_with fail
 refine HO.out.mono ?_
 rintro e w2 ⟨rfl,hbt⟩
 go_wp2
 obtain ⟨t,hbx,hT,htl,hg⟩:=hbt
 obtain ⟨⟨e0,e1,e3,e4⟩,z0,z1,z3,z4⟩:=hbx.at
 have hgl:=hbx.lt
 have hy1 : (w2.drew.setCell ⟨g,0,none⟩ (.int .u32 1)).cell? ⟨g,1,none⟩ = some (.int .i32 1):=((World.cell?_setCell_other _ ⟨g,0,none⟩ ⟨g,1,none⟩ _ (by simp)).trans (by rw [World.cell?_drew];exact e1))
 refine leaves_cons (f:=207) (args:=#[.pointer (some ⟨g,0,none⟩),.bool true]) (by simp) (by simp [go_sem]) ?_
 refine (store_deferred ⟨g,0,none⟩ (.int .u32 0) .returning _ e0 z0).mono ?_
 rintro e u' w'' ⟨rfl,rfl,rfl⟩
 refine leaves_cons (f:=206) (args:=#[.pointer (some ⟨g,1,none⟩)]) (by simp [settle]) (by simp [go_sem]) ?_
 refine (unlock_deferred ⟨g,1,none⟩ _ _ hy1 (by simp [z1])).mono ?_
 rintro e u' w'' ⟨rfl,rfl,rfl⟩
 have hfin : Built g 1 0 w ((w2.drew.setCell ⟨g,0,none⟩ (.int .u32 1)).setCell ⟨g,1,none⟩ (.int .i32 0)):=by
  have hg0:=H1.out.lt
  simp at hg0 htl
  have hx2 : BoxR g 0 1 _ _ w2.drew:=hbx
  refine ⟨t,(hx2.set0 1).set1 0,?_,htl,grow_trans (grow_trans (grow_trans (grow_set w g 1 (.int .i32 1)) (grow_trans hg (grow_drewN w2 1 _))) (grow_set _ _ _ _)) (grow_set _ _ _ _)⟩
  obtain ⟨C,h1,h2⟩:=hT
  exact ⟨C,(Below.heap_setCell _ ⟨g,1,none⟩ _ t (by simp;omega)).trans ((Below.heap_setCell _ ⟨g,0,none⟩ _ t (by simp;omega)).trans h1),h2⟩
 simp [Leaves,settle,results,Tryz.results193]
 exact hfin
set_option maxRecDepth 100000 in
set_option maxHeartbeats 1600000 in
theorem once_any (g a cap : Nat) (w : World) (h : BoxR g 0 0 .nilIface (.slice (some ⟨a,0,none⟩) 4 cap) w) (hf : FourS a w) (ha : a ≠ g) :
  Calls Tryz.prog 173 #[.pointer (some ⟨g,0,none⟩),.func (.func 174) #[.pointer (some ⟨g,0,none⟩)] #[]] w fun e w'=>e = .returned (.tuple #[]) ∧ Built g 1 0 w w':=by
 have HS:=Lib.hid (slow_any g a cap w h hf ha)
 have HL:=Lib.hid (load_zero ⟨g,0,none⟩ w h.at.1.1)
 have hnot : ∀ (x : Bool) (w : World),(Op.unary .not (.bool x)).run Tryz.prog w = .ok (.bool (!x)) w:=fun _ _=>rfl
 clear h hf
 go_enter Tryz.func173,Tryz.ntmps173
 go_wp2_with fail
 refine HL.out.mono ?_
 rintro e w2 ⟨rfl,rfl⟩
 go_wp2_with fail
 refine HS.out.mono ?_
 rintro e w2 ⟨rfl,hbt⟩
 go_wp2
 go_end0
 exact ⟨rfl,hbt⟩
end Go.Proofs.YtjldpkhfiffinaaGreatDoor.U
