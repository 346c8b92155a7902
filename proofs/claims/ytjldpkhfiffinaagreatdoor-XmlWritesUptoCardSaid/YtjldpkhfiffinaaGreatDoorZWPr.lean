/- The law XmlWrites holds where the steps hold together at most 1048576 values and letters (each counted each time it is reached): it returns true and leaves what it was given as it was. Conditions: that bound; the listed package variables (the tables of package utf, the library's errors and tables) start as the program's text lays them, one of Go's own tables as it is pinned by name (the card ties them). -/
import Derived.Test.YtjldpkhfiffinaaGreatDoorZW04
import Derived.Below
import Derived.Laws.RangeAny
import Derived.WalkLawsBesides
import Derived.Lib.RuneBytes
import Derived.Lib.Strings
import Derived.Lib.Bytealg
import Derived.RowKit3
import Derived.Test.YtjldpkhfiffinaaGreatDoorRows
import Derived.WalkKit
import Derived.WalkSpells
import Derived.Lib.Hide
import Derived.Laws.Rows
import Derived.Lib.OthersKept
import Derived.BigQuiet
import Derived.BigCall
import Derived.Shelf.Abstract
import Derived.Deep.QuietTactic
import Derived.Lib.ConvBytes
import Derived.Shelf.Strings.Builder1
import Derived.Shelf.Strings.Builder2
import Derived.Shelf.Small.Strs
import Derived.Shelf.Small.Wraps
import Derived.Shelf.Strings.BuilderF
import Derived.Shelf.Strings.BuilderK
import Derived.Shelf.Strings.BuilderRune
import Derived.Ground.MpProg
import Derived.Shelf.Pu.ParseUintPublic10
import Derived.Shelf.Strings.Search1
import Derived.Shelf.Strings.Search2
import Derived.Shelf.Strings.Search3
import Derived.Shelf.Strings.Cut
import Derived.Shelf.Strings.Count
import Derived.Shelf.LaysM
import Derived.Shelf.Strings.Shaped
import Derived.Shelf.Strings.Prefix
import Derived.Shelf.Strings.Split
import Derived.Shelf.Strings.Replace
import Derived.Shelf.Strings.SplitShaped
import Derived.Shelf.Unicode.DecodeSlow
import Derived.Shelf.Vars
import Derived.HandedShaped
import Derived.Lay
import Derived.Stop.LaidErr
import Derived.ProofKit
import Derived.LaidMore
import Derived.OpenShut
import Derived.Stop.Joined
import Derived.Deep.Strs
import Derived.ShutString
import Derived.ChangeOld
import Derived.Test.YtjldpkhfiffinaaGreatDoorCards
import Derived.Test.YtjldpkhfiffinaaGreatDoorTie
import Derived.ChangeMaps5
import Derived.Deep.DeepHandedRow
import Derived.JoinedCond
namespace Go.Proofs.YtjldpkhfiffinaaGreatDoor.U
open Go.ChangeShapes Go.WideShapes Go.ChangeAt Go.WideMaps Go.WideElems Go.RowKit
def laid3 : List (String × DataW Unit) := [("math/bits.deBruijn32tab", Rows.laid_math_bits_deBruijn32tab), ("math/bits.deBruijn64tab", Rows.laid_math_bits_deBruijn64tab), ("internal/strconv.uint64pow10", Rows.laid_internal_strconv_uint64pow10), ("unicode/utf8.acceptRanges", Rows.laid_unicode_utf8_acceptRanges), ("strconv.ErrRange", Rows.laid_strconv_ErrRange), ("strconv.ErrSyntax", Rows.laid_strconv_ErrSyntax), ("spyglass/utf.spans", Rows.laid_spyglass_utf_spans), ("spyglass/utf.rows", Rows.laid_spyglass_utf_rows), ("unicode/utf8.first", Rows.laid_unicode_utf8_first)]
theorem own : ownKnob Tryz.prog.godebug = none:=by kernel_rfl
theorem laidOut : laidOutB Tryz.prog = true:=by kernel_rfl
theorem gSpans : Tryz.prog.globalNamed "spyglass/utf.spans" = some 1 := by kernel_rfl
theorem gRows : Tryz.prog.globalNamed "spyglass/utf.rows" = some 0 := by kernel_rfl
theorem tSpans : (Tryz.prog.globals[1]?).map (·.type) = some 207:=by kernel_rfl
theorem tRows : (Tryz.prog.globals[0]?).map (·.type) = some 203:=by kernel_rfl
theorem cells54 : Tryz.prog.cellsOf 207 = 10:=by kernel_rfl
theorem cells61 : Tryz.prog.cellsOf 203 = 12:=by kernel_rfl
theorem cells52 : Tryz.prog.cellsOf 205 = 2:=by kernel_rfl
theorem cells60 : Tryz.prog.cellsOf 202 = 3:=by kernel_rfl
theorem cells21 : Tryz.prog.cellsOf 21 = 1:=by kernel_rfl
theorem cells5 : Tryz.prog.cellsOf 5 = 1:=by kernel_rfl
theorem door_met (os : Os) (args : Array Value) : laidMetH Tryz.prog laid3 ((World.laidAll Tryz.prog os laid3).forCall (fun _ _=>0) ⟨#[],args,[]⟩).memory:=by
 rw [MakeChecks.laidMetH_plain _ _ _ (by kernel_rfl)];exact laidMet_laidAll _ (by kernel_rfl) (by kernel_rfl)
variable {W : World}
theorem span_cells {fuel : Nat} {c0 c1 : Value} {a b : Int} {p : List MemPlace} (h : DataW.trod (fun _=>()) Tryz.prog W 0 (fun _=>true) false fuel 205 [c0,c1] = some (.agg [.lit (.int .i32 a),.lit (.int .i32 b)],p)) : c0 = .int .i32 a ∧ c1 = .int .i32 b:=by
 obtain ⟨y0,y1,n,hx,_,h0,h1⟩:=trod_struct2 Tryz.underlying205 h
 simp only [Prod.mk.injEq,DataW.agg.injEq,List.cons.injEq,and_true] at hx
 simp only [cells21,List.drop_zero,List.take_succ_cons,List.take_zero,List.drop_succ_cons] at h0 h1
 obtain ⟨a',e0,rfl,_⟩:=DataW.trod_int Tryz.underlying21 h0
 obtain ⟨b',e1,rfl,_⟩:=DataW.trod_int Tryz.underlying21 h1
 simp only [DataW.lit.injEq,Lit.int.injEq,true_and] at hx
 simp only [List.cons.injEq,and_true] at e0 e1
 rw [e0,e1,hx.1.1,hx.1.2]
 exact ⟨rfl,rfl⟩
theorem row_cells {fuel : Nat} {c0 c1 c2 : Value} {a b c : Int} {p : List MemPlace} (h : DataW.trod (fun _=>()) Tryz.prog W 0 (fun _=>true) false fuel 202 [c0,c1,c2] = some (.agg [.lit (.int .i32 a),.lit (.int .u8 b),.lit (.int .u8 c)],p)) : c0 = .int .i32 a ∧ c1 = .int .u8 b ∧ c2 = .int .u8 c:=by
 obtain ⟨y0,y1,y2,n,hx,_,h0,h1,h2⟩:=Deep.trod_struct3 Tryz.underlying202 h
 simp only [Prod.mk.injEq,DataW.agg.injEq,List.cons.injEq,and_true] at hx
 simp only [cells21,cells5,List.drop_zero,List.take_succ_cons,List.take_zero,List.drop_succ_cons] at h0 h1 h2
 obtain ⟨a',e0,rfl,_⟩:=DataW.trod_int Tryz.underlying21 h0
 obtain ⟨b',e1,rfl,_⟩:=DataW.trod_int Tryz.underlying5 h1
 obtain ⟨c',e2,rfl,_⟩:=DataW.trod_int Tryz.underlying5 h2
 simp only [DataW.lit.injEq,Lit.int.injEq,true_and] at hx
 simp only [List.cons.injEq,and_true] at e0 e1 e2
 rw [e0,e1,e2,hx.1.1,hx.1.2.1,hx.1.2.2]
 exact ⟨rfl,rfl,rfl⟩
theorem block_of_var {P : Program} {n : String} {g : Nat} {cs : Array Value} (hg : P.globalNamed n = some g) (h : W.var? P n = some cs) : ∃ t fr,W.heap[g]? = some (.cells cs t fr):=by
 simp only [World.var?,hg,Option.bind_some] at h
 split at h
 ·rename_i c t fr he
  cases h
  exact ⟨t,fr,he⟩
 ·cases h
theorem gSyn : Tryz.prog.globalNamed "strconv.ErrSyntax" = some 5 := by kernel_rfl
theorem tSyn : (Tryz.prog.globals[5]?).map (·.type) = some 102:=by kernel_rfl
theorem star : "*" ++ "errors.errorString" = "*errors.errorString" := by decide
theorem ptrSyn (u : TypeId) (h : Tryz.prog.typeName? 3 u = some "*errors.errorString") : u = 308 :=
 typeName_ptr_named (nm := "errors.errorString") (by rw [star]; kernel_rfl) (by kernel_rfl) (by decide) u (by rw [star]; exact h)
set_option maxRecDepth 20000 in
theorem of_laid (h : laidMetH Tryz.prog laid3 W) : LayS W:=by
 rw [MakeChecks.laidMetH_plain _ _ _ (by kernel_rfl)] at h
 have h4:=h.tail.tail.tail.tail.tail
 refine ⟨?_,?_⟩
 rotate_left
 ·obtain ⟨a,s,hv,_⟩:=laid_sentinel h4 gSyn tSyn Tryz.underlying102 ptrSyn Tryz.underlying308 Tryz.underlying310 rfl rfl Tryz.underlying9 (by kernel_rfl) (by kernel_rfl)
  exact ⟨_,_,by simpa using World.var?_cell gSyn hv 0⟩
 replace h:=h4.tail
 obtain ⟨ps,⟨g0,t0,cs0,f0,p0,q0,hg0,ht0,hv0,hd0,⟨g1,t1,cs1,f1,p1,q1,hg1,ht1,hv1,hd1,_,_⟩,_⟩,_,_⟩:=h
 obtain rfl:=Option.some.inj (gSpans.symm.trans hg0)
 obtain rfl:=Option.some.inj (gRows.symm.trans hg1)
 obtain rfl:=Option.some.inj (tSpans.symm.trans ht0)
 obtain rfl:=Option.some.inj (tRows.symm.trans ht1)
 obtain ⟨ta,fa,ha⟩:=block_of_var gSpans hv0
 obtain ⟨tb,fb,hb⟩:=block_of_var gRows hv1
 refine ⟨⟨ta,fa,?_⟩,⟨tb,fb,?_⟩⟩
 ·rw [ha]
  obtain ⟨xs,m1,rfl,hx,hlen,hn,hel⟩:=DataW.trod_array Tryz.underlying207 hd0
  rw [cells54] at hlen
  simp only [cells52] at hel
  obtain ⟨l⟩:=cs0
  simp only [Rows.laid_spyglass_utf_spans,Prod.mk.injEq,DataW.agg.injEq] at hx
  match l,hlen,xs,hn,hx,hel with
  | [c0,c1,c2,c3,c4,c5,c6,c7,c8,c9],_,[x0,x1,x2,x3,x4],_,hx,hel=>
   simp only [List.map_cons,List.map_nil,List.cons.injEq,and_true] at hx
   obtain ⟨d0,u0⟩:=x0
   obtain ⟨d1,u1⟩:=x1
   obtain ⟨d2,u2⟩:=x2
   obtain ⟨d3,u3⟩:=x3
   obtain ⟨d4,u4⟩:=x4
   obtain ⟨⟨rfl,rfl,rfl,rfl,rfl⟩,_⟩:=hx
   obtain ⟨rfl,rfl⟩:=span_cells (c0:=c0) (c1:=c1) (hel 0 (by decide))
   obtain ⟨rfl,rfl⟩:=span_cells (c0:=c2) (c1:=c3) (hel 1 (by decide))
   obtain ⟨rfl,rfl⟩:=span_cells (c0:=c4) (c1:=c5) (hel 2 (by decide))
   obtain ⟨rfl,rfl⟩:=span_cells (c0:=c6) (c1:=c7) (hel 3 (by decide))
   obtain ⟨rfl,rfl⟩:=span_cells (c0:=c8) (c1:=c9) (hel 4 (by decide))
   rfl
 ·rw [hb]
  obtain ⟨xs,m1,rfl,hx,hlen,hn,hel⟩:=DataW.trod_array Tryz.underlying203 hd1
  rw [cells61] at hlen
  simp only [cells60] at hel
  obtain ⟨l⟩:=cs1
  simp only [Rows.laid_spyglass_utf_rows,Prod.mk.injEq,DataW.agg.injEq] at hx
  match l,hlen,xs,hn,hx,hel with
  | [c0,c1,c2,c3,c4,c5,c6,c7,c8,c9,c10,c11],_,[x0,x1,x2,x3],_,hx,hel=>
   simp only [List.map_cons,List.map_nil,List.cons.injEq,and_true] at hx
   obtain ⟨d0,u0⟩:=x0
   obtain ⟨d1,u1⟩:=x1
   obtain ⟨d2,u2⟩:=x2
   obtain ⟨d3,u3⟩:=x3
   obtain ⟨⟨rfl,rfl,rfl,rfl⟩,_⟩:=hx
   obtain ⟨rfl,rfl,rfl⟩:=row_cells (c0:=c0) (c1:=c1) (c2:=c2) (hel 0 (by decide))
   obtain ⟨rfl,rfl,rfl⟩:=row_cells (c0:=c3) (c1:=c4) (c2:=c5) (hel 1 (by decide))
   obtain ⟨rfl,rfl,rfl⟩:=row_cells (c0:=c6) (c1:=c7) (c2:=c8) (hel 2 (by decide))
   obtain ⟨rfl,rfl,rfl⟩:=row_cells (c0:=c9) (c1:=c10) (c2:=c11) (hel 3 (by decide))
   rfl
theorem mx_open (h : W.ShapedOpen Tryz.prog) : Mx W:=
 cell_of_shapedOpen_int (t:=3) (zero:=#[.int .i64 0]) h (of_decide_eq_true (by kernel_rfl)) (by kernel_rfl) rfl (by kernel_rfl) (by kernel_rfl) Tryz.underlying3
theorem t_of_laid (h : laidMetH Tryz.prog laid3 W) (ho : W.ShapedOpen Tryz.prog) : LayT W:=⟨of_laid h,mx_open ho⟩
end Go.Proofs.YtjldpkhfiffinaaGreatDoor.U
namespace Go.Proofs.YtjldpkhfiffinaaGreatDoor.XmlWritesP
open Go.ChangeShapes Go.WideShapes Go.ChangeAt Go.WideMaps Go.WideElems Go.RowKit U
theorem walk (a : Option Addr) (n cap : Nat) (l : List Stp) (B : Nat) (hB : B ≤ 1048576) (w : World) (hr : AtRow w (.slice a n cap) l.length 3 (stepCells l)) (hl : 4 * l.length ≤ B) (_ : ∀ x ∈ l,bulkS x ≤ B) (hm : LayT w) :
  Calls Tryz.prog 4 #[.slice a n cap] w fun e w'=>e = .returned (.bool true) ∧ Below w.heap.size w w':=
 xwrites_any l (.slice a n cap) w hm hr (by omega)
theorem reads (os : Os) {H : Type} (enc : TypeId × Value → H) : ∃ places,DataW.whole enc Tryz.prog ((World.laidAll Tryz.prog os laid3).forCall (fun _ _=>0) ⟨#[],#[.slice none 0 0],[]⟩).memory Tryz.f4.params.toList Rows.xmlWritesSpec.vars false #[Value.slice none 0 0].toList 8 = some ([.nil],[],places):=
 ⟨[],by kernel_rfl⟩
set_option maxRecDepth 100000 in
theorem lifted (os : Os) (started : os.Started) (H : Type) (enc : TypeId × Value → H) (F : Stop.Interp) :
  ReturnsInHanded {} Tryz.checked os 4 .any ((Rows.OpenSpec.upto Rows.xmlWritesSpec).preRow enc Tryz.prog Tryz.f4 Rows.xmlWritesUptoRow.domain false Rows.xmlWritesUptoRow.laid) (((Rows.OpenSpec.upto Rows.xmlWritesSpec).at F).post enc Tryz.prog Tryz.f4 false true false false):=by
 obtain ⟨places,hx⟩:=reads os enc
 refine returnsInHanded_of_row (C:=Tryz.checked) (s:=Rows.OpenSpec.upto Rows.xmlWritesSpec) own started (by kernel_rfl) Tryz.func4
  ⟨World.laidAll Tryz.prog os laid3,fun _ _=>0,⟨#[],#[.slice none 0 0],[]⟩,World.laidAll_os _ _ _,World.shaped_of_ZipB (by kernel_rfl) (by kernel_rfl),rfl,(Input.okWide_of_okWideB (by kernel_rfl)).2,
   OpenSpec.preRow_of_cond 8 hx (by kernel_rfl) (fun k hk=>by cases hk;kernel_rfl) (by kernel_rfl) (door_met os _),by
    simp only [Assume.holds]
    exact ⟨by simp,by simp,fun _=>Modest.zero,by simp,by simp⟩⟩ ?_
 intro W base args ds gs before hval0 hW _ hcond _ hL hO _
 have hval : ∀ (j : Nat) t v,Tryz.f4.params[j]? = some t → args[j]? = some v → Value.okWide Tryz.prog W .any base t v:=hval0
 have hW':=hW
 obtain ⟨p,q,hA0,hV,rfl,hfz,hnd⟩:=hW
 have hA : DataW.TrodAll enc Tryz.prog W 0 (fun _=>true) true Tryz.f4.params.toList args.toList ds p:=hA0
 rw [Tryz.params4] at hA hval
 obtain ⟨v0,vs0,d0,ds0,p0,q0,hargs,rfl,rfl,h0,r0⟩:=trodAll_cons hA
 obtain ⟨rfl,rfl,rfl⟩:=trodAll_nil r0
 obtain rfl : args = #[v0]:=by cases args;simp_all
 obtain ⟨rfl,rfl⟩:=trodVars_none hV
 obtain ⟨a0,len0,cap0,rfl⟩:=okWide_slice Tryz.underlying46 (hval 0 46 v0 rfl rfl)
 have hk:=hcond _ rfl
 have hB : Rows.uptoBulk d0 ≤ 1048576:=by
  have h:=of_decide_eq_true hk
  simp only [List.append_nil,Rows.uptoBulkAll] at h
  omega
 have k0:=h0
 have lt0 : ∀ x ∈ p0,x.block < W.heap.size:=by obtain ⟨m,hm⟩:=k0;exact DataW.trod_lt m _ _ _ hm
 obtain ⟨f0,hf0⟩:=h0
 obtain ⟨l,o1,o2,o3⟩:=open_steps hf0
 clear hA0 hval0 hk
 refine (walk a0 len0 cap0 l _ hB W o1 o2 o3 (t_of_laid hL hO)).mono fun e W' ⟨he,bel⟩=>?_
 subst he
 exact ⟨_,rfl,_,_,_,[],_,[],hW',trodAll_mk1 (shut_bool Tryz.underlying4 _),(trodAll_cons_mk (Below.trod laidOut (by kernel_rfl) (of_decide_eq_true (by kernel_rfl)) k0 bel lt0) trodAll_mk0),rfl,bel.frame _,fun h=>by cases h⟩
theorem over : Rows.xmlWritesUptoRow.holds Tryz.pinned (Rows.OpenSpec.upto Rows.xmlWritesSpec):=
 OpenClaim.holds_of_cond 4 Tryz.f4 rfl rfl rfl rfl rfl rfl rfl ⟨rfl,rfl,rfl,rfl,rfl⟩ rfl rfl rfl rfl rfl (by kernel_rfl) Tryz.func4 (by kernel_rfl)
  (of_decide_eq_true (by kernel_rfl)) (by unfold Func.isWrapper;first | (rw [if_pos (by decide +kernel)];kernel_rfl) | (rw [if_neg (by decide +kernel)];exact ⟨rfl,rfl⟩))
  (fun os started H enc _ F=>by rw [OpenClaim.pre_eq_preRow];exact lifted os started H enc F)
end Go.Proofs.YtjldpkhfiffinaaGreatDoor.XmlWritesP
namespace Go.Proofs.YtjldpkhfiffinaaGreatDoor
theorem xmlWrites_upto : Rows.XmlWritesUptoCardSaid:=
 Claim7.holds_tied_plain_at .later [] [.data, .data, .data, .data, .sentinel, .sentinel, .data, .data, .pinned] true (true, "4148650d6e0846488ce487377aadbf32be7dd7120a5a7c6cb84a32f3e199f1d9") true
  XmlWritesP.over (fun _ h=>by cases h) (by kernel_rfl) (fun _ h=>by cases h) xmlWritesUpto_row_tie rfl ⟨rfl,rfl⟩ (by kernel_rfl) rfl
  (fun f fn hf hfn=>by
   obtain rfl : f = 4 := Option.some.inj ((show Tryz.prog.funcNamed "spyglass/spyglasslaw05.XmlWrites" = some 4 by kernel_rfl).symm.trans hf) |>.symm
   obtain rfl : fn = Tryz.f4:=(Option.some.inj (Tryz.func4.symm.trans hfn)).symm
   exact ⟨by kernel_rfl,fun j t ht=>by
    rw [Tryz.params4] at ht
    have hm : t ∈ [46]:=by simpa using Array.mem_of_getElem? ht
    have hall : ([46].all fun u=>!Tryz.prog.wantsStandIn u) = true:=by kernel_rfl
    exact (show Tryz.prog.wantsStandIn t = false by simpa using List.all_eq_true.1 hall t hm)⟩)
  (by kernel_rfl)
#print axioms xmlWrites_upto
end Go.Proofs.YtjldpkhfiffinaaGreatDoor
