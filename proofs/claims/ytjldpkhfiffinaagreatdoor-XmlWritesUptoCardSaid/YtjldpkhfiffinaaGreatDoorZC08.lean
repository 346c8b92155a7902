/- Contracts and plain facts that the law stands on: Q10, T2, T3. -/
import Derived.WalkKit
import Derived.WalkSpells
import Derived.WalkLawsBesides
import Derived.Lib.Hide
import Derived.Laws.Rows
import Derived.Test.YtjldpkhfiffinaaGreatDoorZC03
import Derived.Test.YtjldpkhfiffinaaGreatDoorZC02
import Derived.Test.YtjldpkhfiffinaaGreatDoorZC07
import Derived.Laws.ResultCell
import Derived.Deep.QuietTactic
import Derived.BigQuiet
import Derived.Deep.RegionHeld3
import Derived.Test.YtjldpkhfiffinaaGreatDoorRows
import Derived.Deep.RegionLaw
import Derived.Maps.AppendAt
import Derived.BigRegion
import Derived.OwnWalk
namespace Go.Proofs.YtjldpkhfiffinaaGreatDoor.U
open Go.RowKit
def attrCells (al : List (List UInt8 × List UInt8)) : List Value:=al.flatMap fun a=>[.string ⟨a.1.toArray⟩,.string ⟨a.2.toArray⟩]
theorem attrCells_len (al : List (List UInt8 × List UInt8)) : (attrCells al).length = al.length * 2:=by
 unfold attrCells
 induction al with
 | nil=>rfl
 | cons a t ih=>rw [List.flatMap_cons,List.length_append,ih,List.length_cons];simp;omega
theorem attrCells_get : ∀ (al : List (List UInt8 × List UInt8)) (i : Nat) (h : i < al.length),(attrCells al)[i * 2]? = some (.string ⟨al[i].1.toArray⟩) ∧ (attrCells al)[i * 2 + 1]? = some (.string ⟨al[i].2.toArray⟩):=by
 intro al
 induction al with
 | nil=>intro i h;simp at h
 | cons a t ih=>
  intro i h
  cases i with
  | zero=>exact ⟨rfl,rfl⟩
  | succ i=>
   have:=ih i (by simpa using h)
   have e : attrCells (a :: t) = .string ⟨a.1.toArray⟩ :: .string ⟨a.2.toArray⟩ :: attrCells t:=rfl
   rw [e,show (i + 1) * 2 = i * 2 + 1 + 1 by omega]
   simp only [List.getElem?_cons_succ,List.getElem_cons_succ]
   exact this
def AtRow (w : World) (v : Value) (n size : Nat) (xs : List Value) : Prop:=
 ∃ a cap,v = .slice a n cap ∧ n ≤ cap ∧ xs.length = n * size ∧ (0 < n → ∃ g off,a = some ⟨g,off,none⟩ ∧ ∀ j u,xs[j]? = some u → w.cell? ⟨g,off + j,none⟩ = some u)
theorem AtRow.below {w w' : World} {v : Value} {n size : Nat} {xs : List Value} {B : Nat} (h : AtRow w v n size xs) (hb : Below B w w') (hB : w.heap.size ≤ B) : AtRow w' v n size xs:=by
 obtain ⟨a,cap,hv,hc,hl,hx⟩:=h
 refine ⟨a,cap,hv,hc,hl,fun h0=>?_⟩
 obtain ⟨g,off,ha,hj⟩:=hx h0
 refine ⟨g,off,ha,fun j u hu=>?_⟩
 have h1:=hj j u hu
 have h2 : g < w.heap.size:=by simpa using block_lt_of_cell h1
 exact (hb.cell (p:=⟨g,off + j,none⟩) (by simp;omega)).trans h1
theorem AtRow.of_own {w : World} {base n size : Nat} {e : TypeId} {v : Value} {xs : List Value} (h : w.ownsRow base e size v n xs) : AtRow w v n size xs:=by
 have hl:=h.1
 rcases h.2 with ⟨rfl,h0⟩ | ⟨g,cap,cur,rfl,hr⟩
 ·exact ⟨none,0,by rw [h0],by omega,hl,fun h1=>by omega⟩
 ·refine ⟨_,cap,rfl,hr.2.2.1,hl,fun _=>⟨g,0,rfl,fun j u hu=>?_⟩⟩
  have:=h.cells rfl j u hu
  have e2 : (⟨g,0,none⟩ : Addr).add j = ⟨g,j,none⟩:=by unfold Addr.add;split <;> simp_all
  rw [e2] at this
  rw [Nat.zero_add];exact this
open Go.RowKit
def tokCells (t : Tok) (v : Value) : Array Value:=#[.int .i64 t.kind,.string ⟨t.name.toArray⟩,.string ⟨t.text.toArray⟩,v,.bool t.empty]
def Box5 (b : Nat) (ki : Int) (x y : ByteArray) (v : Value) (em : Bool) (w : World) : Prop:=w.heap[b]? = some (.cells #[.int .i64 ki,.string x,.string y,v,.bool em] 73 (0,0))
def tvCells (l : List (Tok × Value)) : List Value:=l.flatMap fun x=>(tokCells x.1 x.2).toList
theorem tv_get : ∀ (l : List (Tok × Value)) (k : Nat) (h : k < l.length) (i : Nat) (v : Value),(tokCells (l[k]'h).1 (l[k]'h).2).toList[i]? = some v → (tvCells l)[k * 5 + i]? = some v:=by
 intro l
 induction l with
 | nil=>intro k h;simp at h
 | cons x r ih=>
  intro k h i v hv
  have e : tvCells (x :: r) = (tokCells x.1 x.2).toList ++ tvCells r:=by unfold tvCells;rw [List.flatMap_cons]
  have e5 : (tokCells x.1 x.2).toList.length = 5:=rfl
  rw [e]
  cases k with
  | zero=>
   have hi : i < 5:=by
    have:=(List.getElem?_eq_some_iff.1 hv).1
    exact this
   rw [List.getElem?_append_left (by rw [e5];omega),Nat.zero_mul,Nat.zero_add]
   exact hv
  | succ k=>
   rw [List.getElem?_append_right (by rw [e5];omega),e5,show (k + 1) * 5 + i - 5 = k * 5 + i by omega]
   exact ih k (by simpa using h) i v hv
def TokAt (w : World) (v : Value) (ts : List Tok) : Prop:=
 ∃ l : List (Tok × Value),l.map (·.1) = ts ∧ AtRow w v ts.length 5 (tvCells l) ∧ ∀ x ∈ l,AtRow w x.2 x.1.attrs.length 2 (attrCells x.1.attrs)
theorem TokAt.cells {w : World} {a : Option Addr} {c : Nat} {ts : List Tok} (h : TokAt w (.slice a ts.length c) ts) : ∃ g off,(0 < ts.length → a = some ⟨g,off,none⟩) ∧
  ∀ k (hk : k < ts.length),∃ a' c',w.cell? ⟨g,off + k * 5,none⟩ = some (.int .i64 (ts[k]'hk).kind) ∧ w.cell? ⟨g,off + k * 5 + 1,none⟩ = some (.string ⟨(ts[k]'hk).name.toArray⟩) ∧ w.cell? ⟨g,off + k * 5 + 2,none⟩ = some (.string ⟨(ts[k]'hk).text.toArray⟩) ∧ w.cell? ⟨g,off + k * 5 + 3,none⟩ = some (.slice a' (ts[k]'hk).attrs.length c') ∧ w.cell? ⟨g,off + k * 5 + 4,none⟩ = some (.bool (ts[k]'hk).empty) ∧ AtRow w (.slice a' (ts[k]'hk).attrs.length c') (ts[k]'hk).attrs.length 2 (attrCells (ts[k]'hk).attrs):=by
 obtain ⟨l,rfl,⟨a0,c0,hv,_,_,hx⟩,hr⟩:=h
 injection hv with e1 e2 e3
 subst e1 e3
 by_cases h0 : 0 < (l.map (·.1)).length
 ·obtain ⟨g,off,hag,hc⟩:=hx h0
  refine ⟨g,off,fun _=>hag,fun k hk=>?_⟩
  have hk' : k < l.length:=by simpa using hk
  have hm:=hr (l[k]'hk') (List.getElem_mem hk')
  have e : (l.map (·.1))[k]'hk = (l[k]'hk').1:=by simp
  rw [e]
  obtain ⟨a',c',hv',hrest⟩:=hm
  have get : ∀ i v,(tokCells (l[k]'hk').1 (l[k]'hk').2).toList[i]? = some v → w.cell? ⟨g,off + k * 5 + i,none⟩ = some v:=fun i v hi=>by
   rw [Nat.add_assoc]
   exact hc _ _ (tv_get l k hk' i v hi)
  refine ⟨a',c',get 0 _ rfl,get 1 _ rfl,get 2 _ rfl,?_,get 4 _ rfl,⟨a',c',rfl,hrest⟩⟩
  rw [← hv']
  exact get 3 _ rfl
 ·exact ⟨0,0,fun h=>absurd h h0,fun k hk=>absurd (Nat.lt_of_le_of_lt (Nat.zero_le _) hk) h0⟩
theorem attr_none1 {l : List UInt8} (h : nameL (l.take (nameN l)) = false) : attrL l = none:=by
 unfold attrL;rw [if_neg (by rw [h];simp)]
theorem attr_none2 {l : List UInt8} (h : nameL (l.take (nameN l)) = true) (hb : begL [61] ((l.drop (nameN l)).drop (blankN (l.drop (nameN l)))) = false) : attrL l = none:=by
 unfold attrL;rw [if_pos h];simp only;rw [if_neg (by rw [hb];simp)]
theorem attr_none3 {l : List UInt8} (h : nameL (l.take (nameN l)) = true) (hb : begL [61] ((l.drop (nameN l)).drop (blankN (l.drop (nameN l)))) = true)
  (hv : valueL (((l.drop (nameN l)).drop (blankN (l.drop (nameN l)) + 1)).drop (blankN ((l.drop (nameN l)).drop (blankN (l.drop (nameN l)) + 1)))) = none) : attrL l = none:=by
 unfold attrL;rw [if_pos h];simp only;rw [if_pos hb,hv]
theorem attr_some {l x : List UInt8} {j : Nat} (h : nameL (l.take (nameN l)) = true) (hb : begL [61] ((l.drop (nameN l)).drop (blankN (l.drop (nameN l)))) = true)
  (hv : valueL (((l.drop (nameN l)).drop (blankN (l.drop (nameN l)) + 1)).drop (blankN ((l.drop (nameN l)).drop (blankN (l.drop (nameN l)) + 1)))) = some (x,j)) :
  attrL l = some ((l.take (nameN l),x),nameN l + blankN (l.drop (nameN l)) + 1 + blankN ((l.drop (nameN l)).drop (blankN (l.drop (nameN l)) + 1)) + j):=by
 unfold attrL;rw [if_pos h];simp only;rw [if_pos hb,hv]
def AttrPost (k : Nat) (o : Option ((List UInt8 × List UInt8) × Nat)) (w : World) (e : Ending) (w' : World) : Prop:=
 Below w.heap.size w w' ∧ ((∃ a n,o = some (a,n) ∧ e = .returned (.tuple #[.agg #[.string ⟨a.1.toArray⟩,.string ⟨a.2.toArray⟩],.int .i64 ((k + n : Nat) : Int)])) ∨ (o = none ∧ ∃ x y,e = .returned (.tuple #[.agg #[.string x,.string y],.int .i64 (-1)])))
def Box2 (t : TypeId) (b : Nat) (x y : ByteArray) (w : World) : Prop:=w.heap[b]? = some (.cells #[.string x,.string y] t (0,0))
theorem Box2.at {t : TypeId} {b : Nat} {x y : ByteArray} {w : World} (h : Box2 t b x y w) : w.cell? ⟨b,0,none⟩ = some (.string x) ∧ w.cell? ⟨b,1,none⟩ = some (.string y) ∧ w.frozen? ⟨b,0,none⟩ = false ∧ w.frozen? ⟨b,1,none⟩ = false:=
 ⟨by rw [Lib.cell_of_heap h];rfl,by rw [Lib.cell_of_heap h];rfl,Lib.frozen_of_heap h 0,Lib.frozen_of_heap h 1⟩
theorem Box2.below {t : TypeId} {b : Nat} {x y : ByteArray} {w w' : World} (h : Box2 t b x y w) (hb : Below w.heap.size w w') : Box2 t b x y w':=
 (hb.block b (Array.getElem?_eq_some_iff.1 h).1).trans h
theorem Box2.new (t : TypeId) (x y : ByteArray) (w : World) : Box2 t w.heap.size x y (w.alloc (.cells #[.string x,.string y] t)):=by
 show (w.heap.push _)[w.heap.size]? = _
 simp
theorem Box2.set {t : TypeId} {b : Nat} {x y : ByteArray} {w : World} (h : Box2 t b x y w) (x' y' : ByteArray) : Box2 t b x' y' ((w.setCell ⟨b,0,none⟩ (.string x')).setCell ⟨b,1,none⟩ (.string y')):=by
 unfold Box2 at h ⊢
 simp [World.setCell,Array.getElem?_modify,h]
theorem ret_cell {P : Program} {fn : Func} {R : Ending → World → Prop} {a : Act} {w : World} {p u : Tmp} {ty t : TypeId} {g : Nat} {cs : Array Value} {fr : Nat × Nat} {d : TypeDesc}
  (h : fn.results = #[.cell p ty,.tmp u]) (hp : a.tmps.getD p undef = .pointer (some ⟨g,0,none⟩)) (hg : w.heap[g]? = some (.cells cs t fr))
  (hu : P.underlying ty = some d) (hd : (match d with | .struct _ | .array _ _=>true | _=>false) = true) (hi : (P.info? ty).map (·.size) = some cs.size) (hf : a.defers = [])
  (hR : R (.returned (.tuple #[.agg cs,a.tmps.getD u undef])) w) : bodyPost P fn R .ret a w:=by
 refine bodyPost_ret (v:=.tuple #[.agg cs,a.tmps.getD u undef]) ?_ hf hR
 have hp' : a.tmps[p]?.getD undef = .pointer (some ⟨g,0,none⟩):=by simpa using hp
 rw [results_cell_tmp h]
 simp [hp',asAddr,run_loadVar_row w g t ty cs fr d hg hu hd hi,Result.andThen]
def PiecePost (k : Nat) (o : Option (Tok × Nat)) (w : World) (e : Ending) (w' : World) : Prop:=
 Below w.heap.size w w' ∧ ((∃ t n v,o = some (t,n) ∧ e = .returned (.tuple #[.agg (tokCells t v),.int .i64 ((k + n : Nat) : Int)]) ∧ w'.ownsRow w.heap.size 82 2 v t.attrs.length (attrCells t.attrs)) ∨
  (o = none ∧ e = .returned (.tuple #[.agg (tokCells ⟨0,[],[],[],false⟩ (.slice none 0 0)),.int .i64 (-1)])))
theorem own_slice {w : World} {base size n : Nat} {e : TypeId} {v : Value} {xs : List Value} (h : w.ownsRow base e size v n xs) : ∃ a c,v = .slice a n c:=by
 rcases h.2 with ⟨rfl,h0⟩ | ⟨g,cap,cur,rfl,_⟩
 ·exact ⟨none,0,by rw [h0]⟩
 ·exact ⟨_,cap,rfl⟩
theorem own_mono {w : World} {base base' size n : Nat} {e : TypeId} {v : Value} {xs : List Value} (h : w.ownsRow base e size v n xs) (hb : base' ≤ base) : w.ownsRow base' e size v n xs:=by
 refine ⟨h.1,?_⟩
 rcases h.2 with h1 | ⟨g,cap,cur,h1,h2,h3⟩
 ·exact .inl h1
 ·exact .inr ⟨g,cap,cur,h1,Nat.le_trans hb h2,h3⟩
theorem own_set5 {w : World} {base size n b : Nat} {e : TypeId} {v : Value} {xs : List Value} (h : w.ownsRow base e size v n xs) (hb : b < base) (v0 v1 v2 v3 v4 : Value) :
  (((((w.setCell ⟨b,0,none⟩ v0).setCell ⟨b,1,none⟩ v1).setCell ⟨b,2,none⟩ v2).setCell ⟨b,3,none⟩ v3).setCell ⟨b,4,none⟩ v4).ownsRow base e size v n xs:=
 ownsRow_setCell_below (ownsRow_setCell_below (ownsRow_setCell_below (ownsRow_setCell_below (ownsRow_setCell_below h (a:=⟨b,0,none⟩) hb _) (a:=⟨b,1,none⟩) hb _) (a:=⟨b,2,none⟩) hb _) (a:=⟨b,3,none⟩) hb _) (a:=⟨b,4,none⟩) hb _
theorem ownBelow {w w' : World} {base size n : Nat} {e : TypeId} {v : Value} {xs : List Value} (h : w.ownsRow base e size v n xs) (hb : Below w.heap.size w w') : w'.ownsRow base e size v n xs:=by
 refine ⟨h.1,?_⟩
 rcases h.2 with h1 | ⟨g,cap,cur,h1,h2,h3,h4⟩
 ·exact .inl h1
 ·exact .inr ⟨g,cap,cur,h1,h2,(hb.block g (Array.getElem?_eq_some_iff.1 h3).1).trans h3,h4⟩
theorem infoA : (Tryz.prog.info? 82).map (fun i=>(i.zero,i.size,i.bytes)) = some (some (.agg #[.string ⟨#[]⟩,.string ⟨#[]⟩]),2,32):=by kernel_rfl
theorem cell_two_new (w : World) (x y : Value) (t : TypeId) : ∀ j u,[x,y][j]? = some u → (w.alloc (.cells #[x,y] t)).cell? ((⟨w.heap.size,0,none⟩ : Addr).add j) = some u:=by
 intro j u hj
 match j,hj with
 | 0,hj=>simp at hj;subst hj;simp [Addr.add]
 | 1,hj=>simp at hj;subst hj;simp [Addr.add]
theorem open_none {l : List UInt8} (h : nameL ((l.drop 1).take (nameN (l.drop 1))) = false) : openL l = none:=by
 unfold openL;simp only;rw [if_neg (by rw [h];simp)]
theorem open_some {l : List UInt8} (h : nameL ((l.drop 1).take (nameN (l.drop 1))) = true) :
  openL l = (attrsA ((l.drop 1).length + 1) [] ((l.drop 1).drop (nameN (l.drop 1)))).map fun x=>(⟨2,(l.drop 1).take (nameN (l.drop 1)),[],x.1,x.2.1⟩,1 + nameN (l.drop 1) + x.2.2):=by
 unfold openL;simp only;rw [if_pos h]
 cases attrsA ((l.drop 1).length + 1) [] ((l.drop 1).drop (nameN (l.drop 1))) with
 | none=>rfl
 | some x=>rfl
theorem com_none {l : List UInt8} (h : findL [45,45] (l.drop 4) = none) : comL l = none:=by unfold comL;rw [h]
theorem com_not {l : List UInt8} {e : Nat} (h : findL [45,45] (l.drop 4) = some e) (h2 : begL [45,45,62] ((l.drop 4).drop e) = false) : comL l = none:=by unfold comL;rw [h];simp only;rw [if_neg (by rw [h2];simp)]
theorem com_ok {l : List UInt8} {e : Nat} (h : findL [45,45] (l.drop 4) = some e) (h2 : begL [45,45,62] ((l.drop 4).drop e) = true) : comL l = some (⟨5,[],(l.drop 4).take e,[],false⟩,e + 7):=by unfold comL;rw [h];simp only;rw [if_pos h2]
theorem cd_none {l : List UInt8} (h : findL sEnd (l.drop 9) = none) : cdL l = none:=by unfold cdL;rw [h]
theorem cd_ok {l : List UInt8} {e : Nat} (h : findL sEnd (l.drop 9) = some e) : cdL l = some (⟨4,[],(l.drop 9).take e,[],false⟩,e + 12):=by unfold cdL;rw [h]
theorem close_none {l : List UInt8} (h : nameL ((l.drop 2).take (nameN (l.drop 2))) = false) : closeL l = none:=by unfold closeL;simp only;rw [if_neg (by rw [h];simp)]
theorem close_not {l : List UInt8} (h : nameL ((l.drop 2).take (nameN (l.drop 2))) = true) (h2 : begL [62] (((l.drop 2).drop (nameN (l.drop 2))).drop (blankN ((l.drop 2).drop (nameN (l.drop 2))))) = false) : closeL l = none:=by
 unfold closeL;simp only;rw [if_pos h,if_neg (by rw [h2];simp)]
theorem close_ok {l : List UInt8} (h : nameL ((l.drop 2).take (nameN (l.drop 2))) = true) (h2 : begL [62] (((l.drop 2).drop (nameN (l.drop 2))).drop (blankN ((l.drop 2).drop (nameN (l.drop 2))))) = true) :
  closeL l = some (⟨3,(l.drop 2).take (nameN (l.drop 2)),[],[],false⟩,2 + nameN (l.drop 2) + blankN ((l.drop 2).drop (nameN (l.drop 2))) + 1):=by
 unfold closeL;simp only;rw [if_pos h,if_pos h2]
theorem text_err {l : List UInt8} {z : Int} {e : Nat} (he : e = (findL [60] l).getD l.length) (h : unL [] (l.take e) = .error z) : textL l = none:=by unfold textL;simp only;rw [← he,h]
theorem text_not {l x : List UInt8} {e : Nat} (he : e = (findL [60] l).getD l.length) (h : unL [] (l.take e) = .ok x) (h2 : findL sEnd (l.take e) ≠ none) : textL l = none:=by
 unfold textL;simp only;rw [← he,h];simp only;rw [if_neg h2]
theorem text_ok {l x : List UInt8} {e : Nat} (he : e = (findL [60] l).getD l.length) (h : unL [] (l.take e) = .ok x) (h2 : findL sEnd (l.take e) = none) : textL l = some (⟨4,[],x,[],false⟩,e):=by
 unfold textL;simp only;rw [← he,h];simp only;rw [if_pos h2]
theorem pc_dec {l : List UInt8} {f : Bool} (h : f = true) (h0 : begL sXml l = true) : pieceL f l = decL l:=by unfold pieceL;rw [if_pos ⟨h,h0⟩]
theorem pc_com {l : List UInt8} {f : Bool} (h0 : ¬ (f = true ∧ begL sXml l = true)) (h1 : begL sCom l = true) : pieceL f l = comL l:=by unfold pieceL;rw [if_neg h0,if_pos h1]
theorem pc_cd {l : List UInt8} {f : Bool} (h0 : ¬ (f = true ∧ begL sXml l = true)) (h1 : begL sCom l = false) (h2 : begL sCd l = true) : pieceL f l = cdL l:=by
 unfold pieceL;rw [if_neg h0,if_neg (by rw [h1];simp),if_pos h2]
theorem pc_close {l : List UInt8} {f : Bool} (h0 : ¬ (f = true ∧ begL sXml l = true)) (h1 : begL sCom l = false) (h2 : begL sCd l = false) (h3 : begL [60,47] l = true) : pieceL f l = closeL l:=by
 unfold pieceL;rw [if_neg h0,if_neg (by rw [h1];simp),if_neg (by rw [h2];simp),if_pos h3]
theorem pc_open {l : List UInt8} {f : Bool} (h0 : ¬ (f = true ∧ begL sXml l = true)) (h1 : begL sCom l = false) (h2 : begL sCd l = false) (h3 : begL [60,47] l = false) (h4 : begL [60] l = true) : pieceL f l = openL l:=by
 unfold pieceL;rw [if_neg h0,if_neg (by rw [h1];simp),if_neg (by rw [h2];simp),if_neg (by rw [h3];simp),if_pos h4]
theorem pc_text {l : List UInt8} {f : Bool} (h0 : ¬ (f = true ∧ begL sXml l = true)) (h1 : begL sCom l = false) (h2 : begL sCd l = false) (h3 : begL [60,47] l = false) (h4 : begL [60] l = false) : pieceL f l = textL l:=by
 unfold pieceL;rw [if_neg h0,if_neg (by rw [h1];simp),if_neg (by rw [h2];simp),if_neg (by rw [h3];simp),if_neg (by rw [h4];simp)]
abbrev BegC (s : ByteArray) (z : Int) (x : ByteArray) (b : Bool) : Prop:=∀ W,Calls Tryz.prog 65 #[.string s,.int .i64 z,.string x] W fun e w'=>e = .returned (.bool b) ∧ W = w'
abbrev FindC (s : ByteArray) (z : Int) (x : ByteArray) (b : Int) : Prop:=∀ W,Calls Tryz.prog 66 #[.string s,.int .i64 z,.string x] W fun e w'=>e = .returned (.int .i64 b) ∧ W = w'
open Go.RowKit
mutual
def TreeV (w : World) : Tr → List Value → Prop
 | .node lb tx al ks,hs=>∃ va vk,hs = [.string ⟨lb.toArray⟩,.string ⟨tx.toArray⟩,va,vk] ∧ AtRow w va al.length 2 (attrCells al) ∧ ∃ l : List (List Value),KidsV w ks l ∧ AtRow w vk ks.length 4 l.flatten
def KidsV (w : World) : List Tr → List (List Value) → Prop
 | [],l=>l = []
 | t :: r,l=>∃ h q,l = h :: q ∧ TreeV w t h ∧ KidsV w r q
end
theorem TreeV.eq {w : World} {lb tx : List UInt8} {al : List (List UInt8 × List UInt8)} {ks : List Tr} {hs : List Value} : TreeV w (.node lb tx al ks) hs ↔ ∃ va vk,hs = [.string ⟨lb.toArray⟩,.string ⟨tx.toArray⟩,va,vk] ∧ AtRow w va al.length 2 (attrCells al) ∧ ∃ l : List (List Value),KidsV w ks l ∧ AtRow w vk ks.length 4 l.flatten:=by
 rw [TreeV]
theorem TreeV.belowT {w w' : World} {B : Nat} (hb : Below B w w') (hB : w.heap.size ≤ B) (t : Tr) : ∀ hs,TreeV w t hs → TreeV w' t hs:=by
 refine Tr.rec (motive_1:=fun t=>∀ hs,TreeV w t hs → TreeV w' t hs) (motive_2:=fun ks=>∀ l,KidsV w ks l → KidsV w' ks l) ?_ ?_ ?_ t
 ·intro lb tx al ks ih hs h
  rw [TreeV.eq] at h ⊢
  obtain ⟨va,vk,h1,h2,l,h3,h4⟩:=h
  exact ⟨va,vk,h1,h2.below hb hB,l,ih l h3,h4.below hb hB⟩
 ·intro l h
  rw [KidsV] at h ⊢
  exact h
 ·intro t ks ih1 ih2 l h
  rw [KidsV] at h ⊢
  obtain ⟨a,q,h1,h2,h3⟩:=h
  exact ⟨a,q,h1,ih1 a h2,ih2 q h3⟩
theorem TreeV.below {w w' : World} {B : Nat} {t : Tr} {hs : List Value} (h : TreeV w t hs) (hb : Below B w w') (hB : w.heap.size ≤ B) : TreeV w' t hs:=TreeV.belowT hb hB t hs h
theorem TreeV.four {w : World} {t : Tr} {hs : List Value} (h : TreeV w t hs) : hs.length = 4:=by
 cases t with
 | node lb tx al ks=>
  rw [TreeV.eq] at h
  obtain ⟨va,vk,h1,_⟩:=h
  rw [h1];rfl
theorem KidsV.get {w : World} : ∀ {ks : List Tr} {l : List (List Value)},KidsV w ks l → ∀ k t,ks[k]? = some t → ∃ h,TreeV w t h ∧ ∀ i v,h[i]? = some v → l.flatten[k * 4 + i]? = some v:=by
 intro ks
 induction ks with
 | nil=>intro l _ k t ht;simp at ht
 | cons u r ih=>
  intro l h k t ht
  rw [KidsV] at h
  obtain ⟨a,q,rfl,h2,h3⟩:=h
  have h4:=h2.four
  cases k with
  | zero=>
   simp only [List.getElem?_cons_zero,Option.some.injEq] at ht
   subst ht
   refine ⟨a,h2,fun i v hv=>?_⟩
   have hi : i < a.length:=(List.getElem?_eq_some_iff.1 hv).1
   rw [List.flatten_cons,Nat.zero_mul,Nat.zero_add,List.getElem?_append_left hi]
   exact hv
  | succ k=>
   simp only [List.getElem?_cons_succ] at ht
   obtain ⟨b,h5,h6⟩:=ih h3 k t ht
   refine ⟨b,h5,fun i v hv=>?_⟩
   rw [List.flatten_cons,List.getElem?_append_right (by omega),h4,show (k + 1) * 4 + i - 4 = k * 4 + i by omega]
   exact h6 i v hv
theorem TreeV.kids {w : World} {a : Option Addr} {n c : Nat} {ks : List Tr} {l : List (List Value)} (hn : ks.length = n) (h1 : KidsV w ks l) (h2 : AtRow w (.slice a n c) n 4 l.flatten) : ∃ g off,(0 < n → a = some ⟨g,off,none⟩) ∧
  ∀ k lb tx al js,ks[k]? = some (.node lb tx al js) → ∃ va vk,w.cell? ⟨g,off + k * 4,none⟩ = some (.string ⟨lb.toArray⟩) ∧ w.cell? ⟨g,off + k * 4 + 1,none⟩ = some (.string ⟨tx.toArray⟩) ∧ w.cell? ⟨g,off + k * 4 + 2,none⟩ = some va ∧ w.cell? ⟨g,off + k * 4 + 3,none⟩ = some vk ∧ TreeV w (.node lb tx al js) [.string ⟨lb.toArray⟩,.string ⟨tx.toArray⟩,va,vk]:=by
 subst hn
 obtain ⟨a0,c0,hv,_,_,hx⟩:=h2
 injection hv with e1 e2 e3
 subst e1 e3
 by_cases h0 : 0 < ks.length
 ·obtain ⟨g,off,hag,hc⟩:=hx h0
  refine ⟨g,off,fun _=>hag,fun k lb tx al js hk=>?_⟩
  obtain ⟨h,h3,h4⟩:=h1.get k _ hk
  have h3':=h3
  rw [TreeV.eq] at h3'
  obtain ⟨va,vk,rfl,_⟩:=h3'
  have get : ∀ i v,([.string ⟨lb.toArray⟩,.string ⟨tx.toArray⟩,va,vk] : List Value)[i]? = some v → w.cell? ⟨g,off + k * 4 + i,none⟩ = some v:=fun i v hi=>by
   rw [Nat.add_assoc]
   exact hc _ _ (h4 i v hi)
  exact ⟨va,vk,get 0 _ rfl,get 1 _ rfl,get 2 _ rfl,get 3 _ rfl,h3⟩
 ·refine ⟨0,0,fun h=>absurd h h0,fun k lb tx al js hk=>?_⟩
  have:=(List.getElem?_eq_some_iff.1 hk).1
  omega
mutual
def eqT : Tr → Tr → Bool
 | .node lb tx al ks,.node lb2 tx2 al2 ks2=>decide (lb = lb2) && decide (tx = tx2) && decide (al = al2) && eqK ks ks2
def eqK : List Tr → List Tr → Bool
 | [],[]=>true
 | t :: r,u :: q=>eqT t u && eqK r q
 | _,_=>false
end
open Go.RowKit
theorem attr_at {w : World} {v : Value} {al : List (List UInt8 × List UInt8)} (h : AtRow w v al.length 2 (attrCells al)) : ∃ a c g off,v = .slice a al.length c ∧ (0 < al.length → a = some ⟨g,off,none⟩) ∧
  ∀ k b,al[k]? = some b → w.cell? ⟨g,off + k * 2,none⟩ = some (.string ⟨b.1.toArray⟩) ∧ w.cell? ⟨g,off + k * 2 + 1,none⟩ = some (.string ⟨b.2.toArray⟩):=by
 obtain ⟨a,c,rfl,_,_,hx⟩:=h
 by_cases h0 : 0 < al.length
 ·obtain ⟨g,off,hag,hc⟩:=hx h0
  refine ⟨a,c,g,off,rfl,fun _=>hag,fun k b hk=>?_⟩
  obtain ⟨hk1,rfl⟩:=List.getElem?_eq_some_iff.1 hk
  obtain ⟨h1,h2⟩:=attrCells_get al k hk1
  exact ⟨hc _ _ h1,by rw [Nat.add_assoc];exact hc _ _ h2⟩
 ·refine ⟨a,c,0,0,rfl,fun h=>absurd h h0,fun k b hk=>?_⟩
  have:=(List.getElem?_eq_some_iff.1 hk).1
  omega
def Box4 (b : Nat) (lb tx : ByteArray) (va vk : Value) (w : World) : Prop:=w.heap[b]? = some (.cells #[.string lb,.string tx,va,vk] 27 (0,0))
theorem Box4.at {b : Nat} {lb tx : ByteArray} {va vk : Value} {w : World} (h : Box4 b lb tx va vk w) :
  w.cell? ⟨b,0,none⟩ = some (.string lb) ∧ w.cell? ⟨b,1,none⟩ = some (.string tx) ∧ w.cell? ⟨b,2,none⟩ = some va ∧ w.cell? ⟨b,3,none⟩ = some vk:=
 ⟨by rw [Lib.cell_of_heap h];rfl,by rw [Lib.cell_of_heap h];rfl,by rw [Lib.cell_of_heap h];rfl,by rw [Lib.cell_of_heap h];rfl⟩
theorem Box4.lt {b : Nat} {lb tx : ByteArray} {va vk : Value} {w : World} (h : Box4 b lb tx va vk w) : b < w.heap.size:=(Array.getElem?_eq_some_iff.1 h).1
theorem Box4.below {b B : Nat} {lb tx : ByteArray} {va vk : Value} {w w' : World} (h : Box4 b lb tx va vk w) (hb : Below B w w') (hB : w.heap.size ≤ B) : Box4 b lb tx va vk w':=(hb.block b (Nat.lt_of_lt_of_le h.lt hB)).trans h
theorem Box4.made (lb tx : ByteArray) (va vk : Value) (w : World) : Box4 w.heap.size lb tx va vk (w.alloc (.cells #[.string lb,.string tx,va,vk] 27)):=by
 show (w.heap.push _)[w.heap.size]? = _
 simp
def smallT : Tr → Bool
 | .node _ _ al ks=>decide (al.length ≤ 100000) && decide (ks.length ≤ 100000)
mutual
def sizeT : Tr → Bool
 | .node _ _ al ks=>decide (al.length ≤ 100000) && decide (ks.length ≤ 100000) && sizeK ks
def sizeK : List Tr → Bool
 | []=>true
 | t :: r=>sizeT t && sizeK r
end
open Go.RowKit
open Go.RowKit
theorem kid_at {w : World} {ks : List Tr} {l : List (List Value)} {v : Value} (h1 : KidsV w ks l) (h2 : AtRow w v ks.length 4 l.flatten) : ∃ a c g off,v = .slice a ks.length c ∧ (0 < ks.length → a = some ⟨g,off,none⟩) ∧
  ∀ (k : Nat) (l1 t1 : List UInt8) (al1 : List (List UInt8 × List UInt8)) (js1 : List Tr),ks[k]? = some (.node l1 t1 al1 js1) → ∃ va vk,w.cell? ⟨g,off + k * 4,none⟩ = some (.string ⟨l1.toArray⟩) ∧ w.cell? ⟨g,off + k * 4 + 1,none⟩ = some (.string ⟨t1.toArray⟩) ∧ w.cell? ⟨g,off + k * 4 + 2,none⟩ = some va ∧ w.cell? ⟨g,off + k * 4 + 3,none⟩ = some vk ∧ TreeV w (.node l1 t1 al1 js1) [.string ⟨l1.toArray⟩,.string ⟨t1.toArray⟩,va,vk]:=by
 have h3:=h2
 obtain ⟨a,c,rfl,_⟩:=h3
 obtain ⟨g,off,h4,h5⟩:=TreeV.kids rfl h1 h2
 exact ⟨a,c,g,off,rfl,h4,h5⟩
open Go.RowKit
def stepCells (l : List Stp) : List Value:=l.flatMap fun s=>[.int .i64 s.kind,.string ⟨s.name.toArray⟩,.string ⟨s.text.toArray⟩]
open Go.RowKit
def stepC (x : Stp) (s : Int × Int × Int) : Int × Int × Int:=
 if x.kind = 1 then (s.1 + 1,s.2.1 + 1,max s.2.2 (s.2.1 + 1)) else if x.kind = 3 then (s.1 + 1,s.2.1,max s.2.2 (s.2.1 + 1)) else if x.kind = 4 then (s.1,s.2.1 - 1,s.2.2) else s
theorem countS_cons (x : Stp) (r : List Stp) (s : Int × Int × Int) : countS (x :: r) s = countS r (stepC x s):=by
 obtain ⟨n,d,m⟩:=s
 rw [countS]
 rfl
open Go.RowKit
theorem less_ltB : ∀ (a b : List UInt8),Op.bytesLess a b = ltB a b:=by
 intro a
 induction a with
 | nil=>intro b;cases b <;> rfl
 | cons x a ih=>
  intro b
  cases b with
  | nil=>rfl
  | cons y b=>
   simp only [Op.bytesLess,ltB,ih]
   by_cases h : x = y <;> simp [h]
theorem ltB_total : ∀ {a b : List UInt8},ltB a b = false → (ltB b a || b == a) = true:=by
 intro a
 induction a with
 | nil=>
  intro b h
  cases b with
  | nil=>rfl
  | cons y b=>simp [ltB] at h
 | cons x a ih=>
  intro b h
  cases b with
  | nil=>rfl
  | cons y b=>
   simp only [ltB,Bool.or_eq_false_iff,decide_eq_false_iff_not,Bool.and_eq_false_iff] at h
   rcases h.2 with h2 | h2
   ·have h3 : y < x:=by
     rcases UInt8.lt_or_eq_of_le (UInt8.not_lt.1 h.1) with h4 | h4
     ·exact h4
     ·exact absurd h4.symm h2
    simp [ltB,h3]
   ·by_cases hxy : x = y
    ·subst hxy
     have:=ih h2
     simp only [Bool.or_eq_true,beq_iff_eq] at this ⊢
     rcases this with h4 | h4
     ·left;simp [ltB,h4]
     ·right;rw [h4]
    ·have h3 : y < x:=by
      rcases UInt8.lt_or_eq_of_le (UInt8.not_lt.1 h.1) with h4 | h4
      ·exact h4
      ·exact absurd h4.symm hxy
     simp [ltB,h3]
def namesOKS (l : List Stp) : Prop:=∀ x ∈ l,¬ (x.kind ≤ 2 ∧ nameL x.name = false)
def textsOK (l : List Stp) : Prop:=∀ x ∈ l,wholeB x.text = true
def emptyOK (l : List Stp) : Prop:=∀ x ∈ l,¬ (x.kind = 3 ∧ x.text = [])
open Go.RowKit
theorem own_sl {w : World} {base size n : Nat} {e : TypeId} {v : Value} {xs : List Value} (h : w.ownsRow base e size v n xs) : ∃ a c,v = .slice a n c:=by
 rcases h.2 with ⟨rfl,rfl⟩ | ⟨g,cap,cur,rfl,_⟩
 ·exact ⟨none,0,rfl⟩
 ·exact ⟨_,cap,rfl⟩
theorem own_bel {w w' : World} {base size n : Nat} {e : TypeId} {v : Value} {xs : List Value} (h : w.ownsRow base e size v n xs) (hb : Below w.heap.size w w') : w'.ownsRow base e size v n xs:=
 h.kept (row:=none) ⟨hb.os,hb.tape,hb.output,hb.size,fun k hk _=>hb.block k hk⟩ (by cases v.ownBlock <;> simp)
def StepsPost (l : List Stp) (w : World) (e : Ending) (w' : World) : Prop:=
 Below w.heap.size w w' ∧ ∃ a c,e = .returned (.slice a l.length c) ∧ w'.ownsRow w.heap.size 78 3 (.slice a l.length c) l.length (stepCells l)
open Go.RowKit
end Go.Proofs.YtjldpkhfiffinaaGreatDoor.U
