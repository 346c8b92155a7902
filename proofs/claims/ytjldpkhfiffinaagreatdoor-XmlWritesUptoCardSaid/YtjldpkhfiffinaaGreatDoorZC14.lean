/- Contracts and plain facts that the law stands on: Q14, Bld. -/
import Derived.Test.YtjldpkhfiffinaaGreatDoorZC13
import Derived.Test.YtjldpkhfiffinaaGreatDoorZC07
import Derived.Lib.SliceRun
import Derived.Test.YtjldpkhfiffinaaGreatDoorZC06
import Derived.WalkKit
import Derived.BigCall
import Derived.BigGuard
namespace Go.Proofs.YtjldpkhfiffinaaGreatDoor.U
open Go.RowKit Go.Shelf
def BufAt (g : Nat) (l : List UInt8) (w : World) : Prop:=g < w.heap.size ∧ ∀ j (h : j < l.length),w.cell? ⟨g,j,none⟩ = some (.int .u8 (l[j].toNat : Int)) ∧ w.frozen? ⟨g,j,none⟩ = false
theorem BufAt.set {g k : Nat} {l l' : List UInt8} {w : World} (h : BufAt g l w) (x : UInt8) (he : l' = l.set k x) : BufAt g l' (w.setCell ⟨g,k,none⟩ (.int .u8 (x.toNat : Int))):=by
 subst he
 refine ⟨by simpa using h.1,fun j hj=>?_⟩
 have hj' : j < l.length:=by simpa using hj
 obtain ⟨h1,h2⟩:=h.2 j hj'
 refine ⟨?_,by simpa using h2⟩
 by_cases e : k = j
 ·subst e
  rw [World.cell?_setCell_same _ _ _ h1]
  simp
 ·rw [World.cell?_setCell_other _ _ _ _ (fun e2=>e (by injection e2)),h1,List.getElem_set_ne e]
theorem BufAt.new (w : World) (s : ByteArray) : BufAt w.heap.size (bts s) (Lib.bytesWorld w 5 s):=by
 refine ⟨by rw [Lib.bytesWorld_size];omega,fun j hj=>⟨?_,?_⟩⟩
 ·have hj2 : j < s.size:=by rwa [bts_len] at hj
  rw [Lib.bytesWorld_cell w 5 s j hj2,List.getD_eq_getElem?_getD]
  show some (Value.int .u8 (((bts s)[j]?.getD 0).toNat : Int)) = _
  rw [List.getElem?_eq_getElem hj]
  rfl
 ·have h:=Lib.bytesWorld_at_new w 5 s
  have hn : s.size ≤ (Lib.bytesCells w 5 s).size:=by
   simp [Lib.bytesCells]
  rw [bts_len] at hj
  simp [World.frozen?,h]
  omega
theorem tab_map (b : UInt8) : tabF b.toNat = (mapB b).toNat:=by
 unfold tabF mapB
 by_cases h : b = 9 ∨ b = 10
 ·rw [if_pos h,if_pos (by rcases h with rfl | rfl <;> simp)];rfl
 ·rw [if_neg h,if_neg (fun e=>h (by
   rcases e with e | e
   ·exact .inl (UInt8.toNat.inj e)
   ·exact .inr (UInt8.toNat.inj e)))]
theorem map_set (l : List UInt8) (k : Nat) (h : k < l.length) : (l.take (k + 1)).map mapB ++ l.drop (k + 1) = ((l.take k).map mapB ++ l.drop k).set k (mapB (l[k]'h)):=by
 rw [List.set_append_right _ _ (by simp;omega)]
 rw [List.take_succ_eq_append_getElem h,List.map_append]
 simp [Nat.min_eq_left (Nat.le_of_lt h)]
 rw [List.drop_eq_getElem_cons h]
 rfl
set_option maxHeartbeats 2000000 in
set_option maxRecDepth 10000 in
theorem breplace_any (t : Nat) (s : ByteArray) (w : World) (h : TabAt t tabF 256 w) (hs : s.size ≤ 1000000) :
  Calls Tryz.prog 282 #[.pointer (some ⟨t,0,none⟩),.string s] w fun e w'=>e = .returned (.string ⟨((bts s).map mapB).toArray⟩) ∧ Below w.heap.size w w':=by
 have hl:=bts_len s
 have HT:=Lib.hid h
 have hq0:=fun (W : World) (a : Option Addr) (n c : Nat)=>Lib.run_eql_slice_nil (P:=Tryz.prog) W 22 5 a n c 0 0 Tryz.underlying22
 clear h
 go_enter Tryz.func282,Tryz.ntmps282
 go_wp2_with fail
 go_loopw [5,6] (fun v i wr=>∃ k : Nat,k ≤ s.size ∧ i = .int .i64 k ∧ Hid (Below w.heap.size w wr) ∧ ((v = .slice none 0 0 ∧ Hid (((bts s).take k).map mapB = (bts s).take k)) ∨ (∃ g cap,v = .slice (some ⟨g,0,none⟩) s.size cap ∧ w.heap.size ≤ g ∧ Hid (BufAt g (((bts s).take k).map mapB ++ (bts s).drop k) wr)))) (fun _ i _=>s.size - (intOf i).toNat)
 case atStart=>exact ⟨0,by omega,rfl,Lib.hid (Below.refl _ _),.inl ⟨rfl,Lib.hid rfl⟩⟩
 case round=>
  obtain ⟨k,hk,rfl,HB,hst⟩:=hrel
  by_cases hlt : k < s.size
  ·have hlt2 : k < (bts s).length:=by rw [hl];exact hlt
   have hTk:=(HT.out.below (HB.out.mono (Nat.le_refl _))).cell (k:=(s[k]'hlt).toNat) (by have:=(s[k]'hlt).toNat_lt;omega)
   obtain ⟨_,_,hc⟩:=hTk
   have hc:=hc (by have:=(s[k]'hlt).toNat_lt;omega)
   rw [tab_map] at hc
   have hx : (bts s)[k]'hlt2 = s[k]'hlt:=bts_get s k hlt
   have hi0 : (0 : Int) ≤ ((s[k]'hlt).toNat : Int):=by omega
   have hi1 : ((s[k]'hlt).toNat : Int) < 256:=by have:=(s[k]'hlt).toNat_lt;omega
   by_cases hm : mapB (s[k]'hlt) = s[k]'hlt
   ·have hb : (((mapB (s[k]'hlt)).toNat : Int) != ((s[k]'hlt).toNat : Int)) = false:=by rw [hm];simp
    rcases hst with ⟨rfl,HS⟩ | ⟨g,cap,rfl,hg,HS⟩
    ·have HN : Hid (((bts s).take (k + 1)).map mapB = (bts s).take (k + 1)):=Lib.hid (by rw [List.take_succ_eq_append_getElem hlt2,List.map_append,HS.out];simp [hx,hm])
     clear hx hm
     go_wp2
     exact ⟨⟨k + 1,by omega,by go_num,HB,.inl ⟨rfl,HN⟩⟩,by simp [intOf];omega⟩
    ·have HN : Hid (BufAt g (((bts s).take (k + 1)).map mapB ++ (bts s).drop (k + 1)) wr):=Lib.hid (by
      rw [map_set _ _ hlt2,hx,hm,← hx]
      have : (((bts s).take k).map mapB ++ (bts s).drop k).set k ((bts s)[k]'hlt2) = ((bts s).take k).map mapB ++ (bts s).drop k:=by
       rw [List.set_append_right _ _ (by simp;omega)]
       simp [Nat.min_eq_left (Nat.le_of_lt hlt2)]
       rw [List.drop_eq_getElem_cons hlt2]
       rfl
      rw [this]
      exact HS.out)
     clear hx hm
     go_wp2
     exact ⟨⟨k + 1,by omega,by go_num,HB,.inr ⟨g,cap,rfl,hg,HN⟩⟩,by simp [intOf];omega⟩
   ·have hb : (((mapB (s[k]'hlt)).toNat : Int) != ((s[k]'hlt).toNat : Int)) = true:=by
     rw [bne_iff_ne]
     exact fun e=>hm (UInt8.toNat.inj (by omega))
    rcases hst with ⟨rfl,HS⟩ | ⟨g,cap,rfl,hg,HS⟩
    ·have hcv:=conv_any wr s
     have HB2:=Lib.hid (th HB.out (Nat.le_refl _) (bytes_below wr s))
     have HBF : Hid (BufAt wr.heap.size (((bts s).take k).map mapB ++ (bts s).drop k) (Lib.bytesWorld wr 5 s)):=Lib.hid (by rw [HS.out,List.take_append_drop];exact BufAt.new wr s)
     have HG : Hid (w.heap.size ≤ wr.heap.size):=Lib.hid HB.out.size
     have hc2:=(Lib.bytesWorld_old wr 5 s ⟨t,(s[k]'hlt).toNat,none⟩ (block_lt_of_cell hc)).trans hc
     generalize hcap : grownCap wr s.size 0 5 = cap at hcv
     obtain ⟨g,hg⟩ : ∃ g,g = wr.heap.size:=⟨_,rfl⟩
     rw [← hg] at hcv HBF HG
     generalize Lib.bytesWorld wr 5 s = w3 at hcv HB2 HBF hc2
     obtain ⟨b0,b1⟩:=HBF.out.2 k (by simp;omega)
     have HN : Hid (BufAt g (((bts s).take (k + 1)).map mapB ++ (bts s).drop (k + 1)) (w3.setCell ⟨g,k,none⟩ (.int .u8 ((mapB (s[k]'hlt)).toNat : Int)))):=Lib.hid (HBF.out.set (mapB (s[k]'hlt)) (by rw [map_set _ _ hlt2,hx]))
     clear hx hm hcap hg
     go_wp2
     exact ⟨⟨k + 1,by omega,by go_num,Lib.hid (HB2.out.setCell (p:=⟨g,k,none⟩) HG.out _),.inr ⟨g,cap,rfl,HG.out,HN⟩⟩,by simp [intOf];omega⟩
    ·obtain ⟨b0,b1⟩:=HS.out.2 k (by simp;omega)
     have HN : Hid (BufAt g (((bts s).take (k + 1)).map mapB ++ (bts s).drop (k + 1)) (wr.setCell ⟨g,k,none⟩ (.int .u8 ((mapB (s[k]'hlt)).toNat : Int)))):=Lib.hid (HS.out.set (mapB (s[k]'hlt)) (by rw [map_set _ _ hlt2,hx]))
     clear hx hm
     go_wp2
     exact ⟨⟨k + 1,by omega,by go_num,Lib.hid (HB.out.setCell (p:=⟨g,k,none⟩) hg _),.inr ⟨g,cap,rfl,hg,HN⟩⟩,by simp [intOf];omega⟩
  ·obtain rfl : k = s.size:=by omega
   rcases hst with ⟨rfl,HS⟩ | ⟨g,cap,rfl,hg,HS⟩
   ·have HE : Hid ((⟨((bts s).map mapB).toArray⟩ : ByteArray) = s):=Lib.hid (by
     have:=HS.out
     rw [List.take_of_length_le (by omega)] at this
     rw [this,mk_bts])
    go_wp2
    go_ret
    exact ⟨by rw [HE.out];rfl,HB.out⟩
   ·have hsz : ((bts s).map mapB).length = s.size:=by rw [List.length_map,hl]
    have hcv : ∀ c,(convert 22 9 (.slice (some ⟨g,0,none⟩) s.size c)).run Tryz.prog wr = .ok (.string ⟨((bts s).map mapB).toArray⟩) wr:=fun c=>by
     have:=run_convert_bytes_back (P:=Tryz.prog) wr 22 9 5 ⟨g,0,none⟩ c ((bts s).map mapB) Tryz.underlying22 Tryz.underlying5 Tryz.underlying9 (fun j hj=>by
      have h2:=HS.out.2 j (by simp;rw [hsz] at hj;omega)
      have e : ((bts s).take s.size).map mapB ++ (bts s).drop s.size = (bts s).map mapB:=by rw [List.take_of_length_le (by omega),List.drop_of_length_le (by omega),List.append_nil]
      have h3:=h2.1
      simp only [e] at h3
      rw [show (⟨g,0,none⟩ : Addr).add j = ⟨g,j,none⟩ by unfold Addr.add;split <;> simp_all]
      exact h3)
     rwa [hsz] at this
    clear hsz
    go_wp2
    go_ret
    exact ⟨rfl,HB.out⟩
theorem infoStr : (Tryz.prog.info? 9).map (fun i=>(i.zero,i.size,i.bytes)) = some (some (.string ⟨#[]⟩),1,16):=by kernel_rfl
theorem four_of_own {w : World} {base : Nat} {v : Value} (h : w.ownsRow base 9 1 v 4 [.string ⟨#[9]⟩,.string ⟨#[32]⟩,.string ⟨#[10]⟩,.string ⟨#[32]⟩]) : ∃ a cap,v = .slice (some ⟨a,0,none⟩) 4 cap ∧ base ≤ a ∧ a < w.heap.size ∧ FourS a w:=by
 rcases h.2 with ⟨rfl,h0⟩ | ⟨g,cap,cur,rfl,hg,hh,_⟩
 ·omega
 ·refine ⟨g,cap,rfl,hg,(Array.getElem?_eq_some_iff.1 hh).1,?_,?_,?_,?_⟩
  ·exact h.cells rfl 0 _ rfl
  ·exact h.cells rfl 1 _ rfl
  ·exact h.cells rfl 2 _ rfl
  ·exact h.cells rfl 3 _ rfl
def Fresh (g : Nat) (w : World) : Prop:=∃ a cap,BoxR g 0 0 .nilIface (.slice (some ⟨a,0,none⟩) 4 cap) w ∧ FourS a w ∧ a ≠ g
set_option maxHeartbeats 1000000 in
set_option maxRecDepth 10000 in
theorem newReplacer_any (a cap : Nat) (w : World) (hf : FourS a w) :
  Calls Tryz.prog 156 #[.slice (some ⟨a,0,none⟩) 4 cap] w fun e w'=>∃ g,e = .returned (.pointer (some ⟨g,0,none⟩)) ∧ w.heap.size ≤ g ∧ Fresh g w' ∧ Below w.heap.size w w':=by
 have HI:=Lib.hid infoStr
 obtain ⟨i0,hi,hz0,hz1,hz2⟩:=info_parts HI.out
 have HN : ∀ j u,[Value.string ⟨#[9]⟩,.string ⟨#[32]⟩,.string ⟨#[10]⟩,.string ⟨#[32]⟩][j]? = some u → w.cell? ((⟨a,0,none⟩ : Addr).add j) = some u:=by
  intro j u hj
  match j,hj with
  | 0,hj=>simp at hj;subst hj;exact hf.1
  | 1,hj=>simp at hj;subst hj;exact hf.2.1
  | 2,hj=>simp at hj;subst hj;exact hf.2.2.1
  | 3,hj=>simp at hj;subst hj;exact hf.2.2.2
 have HN:=Lib.hid HN
 clear hf
 go_enter Tryz.func156,Tryz.ntmps156
 go_wp2_with (at_builtin;go_loud (refine wpList_append_own _ rfl _ _ 76 rfl w.heap.size 9 i0 (.string ⟨#[]⟩) 1 16 Tryz.underlying76 hi hz0 hz1 hz2 rfl (by decide) _ _ _ rfl (World.ownsRow_nil w w.heap.size 9 1) ⟨a,0,none⟩ 4 cap [.string ⟨#[9]⟩,.string ⟨#[32]⟩,.string ⟨#[10]⟩,.string ⟨#[32]⟩] rfl rfl HN.out (by simp [Value.oneCell']) (by decide) (by omega) (Nat.le_refl _) ?_);intro v1 w1 hown1 hgrow1 _;obtain ⟨a',cap',rfl,ha,hal,hf4⟩:=four_of_own hown1;have HF4:=Lib.hid hf4;clear hf4)
 go_ret
 have hB1:=Below.grown (Below.refl w.heap.size w) hgrow1 (Nat.le_refl _) (fun k e=>by cases e)
 have hup : ∀ {p : Addr} {u : Value} (o : Obj),w1.cell? p = some u → (w1.alloc o).cell? p = some u:=fun o h=>(((Below.refl _ w1).alloc (Nat.le_refl _) o).cell (block_lt_of_cell h)).trans h
 refine ⟨w1.heap.size,rfl,hB1.size,⟨a',cap',heap_alloc_last w1 _,⟨hup _ HF4.out.1,hup _ HF4.out.2.1,hup _ HF4.out.2.2.1,hup _ HF4.out.2.2.2⟩,Nat.ne_of_lt hal⟩,al hB1 (Nat.le_refl _) _⟩
theorem meth_replace (n t : Nat) (w : World) : (method (n + 1) 263 (.pointer (some ⟨t, 0, none⟩)) "Replace").run Tryz.prog w = .ok (282, .pointer (some ⟨t, 0, none⟩)) w := by kernel_rfl
set_option maxHeartbeats 1000000 in
set_option maxRecDepth 10000 in
theorem replace_any (g : Nat) (s : ByteArray) (w : World) (h : Fresh g w) (hs : s.size ≤ 1000000) :
  Calls Tryz.prog 157 #[.pointer (some ⟨g,0,none⟩),.string s] w fun e w'=>e = .returned (.string ⟨((bts s).map mapB).toArray⟩) ∧ w.grownBy w' (some g):=by
 obtain ⟨a,cap,hb,hf,ha⟩:=h
 have HO:=Lib.hid (once_any g a cap w hb hf ha)
 have HL:=Lib.hid hb.lt
 have hmf : ∀ (fn : Fn) (first cap : Array Value) (w : World),(Instr.makeFunc fn first cap).run Tryz.prog w = .ok (.func fn first cap) w:=fun _ _ _ _=>rfl
 clear hb hf
 go_enter Tryz.func157,Tryz.ntmps157
 go_wp2_with fail
 refine HO.out.mono ?_
 rintro e w2 ⟨rfl,t,hbx,hT,ht,hg⟩
 have HG:=Lib.hid hg
 have HR:=Lib.hid (breplace_any t s w2 hT hs)
 obtain ⟨⟨e0,e1,e3,e4⟩,z0,z1,z3,z4⟩:=hbx.at
 have hmt:=meth_replace
 clear hbx hT hg
 go_wp2_with fail
 refine HR.out.mono ?_
 rintro e w3 ⟨rfl,hb3⟩
 go_wp2
 go_ret
 exact ⟨rfl,grow_trans HG.out (grow_below hb3 _)⟩
theorem bldSize : (Tryz.prog.info? 99).map (·.size) = some 2:=by kernel_rfl
theorem bldX : Builder.X72 Tryz.prog S.lays169_ren:=S.Builder_Extra_169.toX72
set_option maxHeartbeats 2000000 in
set_option maxRecDepth 100000 in
theorem copyCheck_fresh (b : Nat) (w : World) (h0 : w.cell? ⟨b,0,none⟩ = some (.pointer none)) (hsh : w.shape? b = some (99,2)) (hfz : w.frozen? ⟨b,0,none⟩ = false) :
  Calls Tryz.prog 97 #[.pointer (some ⟨b,0,none⟩)] w fun e w'=>e = .returned (.tuple #[]) ∧ w' = w.setCell ⟨b,0,none⟩ (.pointer (some ⟨b,0,none⟩)):=by
 obtain ⟨j,hj,hjs⟩:=Option.map_eq_some_iff.1 bldSize
 go_enter Tryz.func97,Tryz.ntmps97
 go_wp2
 rw [Lib.run_to_unsafe w ⟨b,0,none⟩ Tryz.underlying97 Tryz.underlying167 hj (by rw [hjs];decide) hsh (Nat.zero_lt_succ 1)]
 simp only [Result.andThen]
 rw [Oper.upon_value]
 go_wp2
 rw [run_callFunc_extern Tryz.func122 (by kernel_rfl) (by kernel_rfl) (by kernel_rfl) (e:=Extern.AbiNoEscape.same) (by kernel_rfl)]
 rw [Lib.run_noEscape]
 simp only [Result.andThen]
 rw [Oper.upon_value]
 go_wp2
 rw [Lib.run_from_unsafe w ⟨b,0,none⟩ Tryz.underlying167 Tryz.underlying97 hj hsh bldX.liesBuilder]
 simp only [Result.andThen]
 rw [Oper.upon_value]
 go_wp2
 go_end0
 exact ⟨rfl,rfl⟩
set_option maxHeartbeats 2000000 in
set_option maxRecDepth 100000 in
theorem copyCheck_used (b : Nat) (w : World) (h0 : w.cell? ⟨b,0,none⟩ = some (.pointer (some ⟨b,0,none⟩))) :
  Calls Tryz.prog 97 #[.pointer (some ⟨b,0,none⟩)] w fun e w'=>e = .returned (.tuple #[]) ∧ w' = w:=by
 obtain ⟨j,hj,_⟩:=Option.map_eq_some_iff.1 bldSize
 go_enter Tryz.func97,Tryz.ntmps97
 go_wp2
 rw [Lib.run_neq_ptr_same w _ Tryz.underlying97 hj]
 go_wp2
 go_end0
 exact ⟨rfl,rfl⟩
def BldPost (base b : Nat) (bs : List Value) (w w' : World) : Prop:=Lib.BuilderAtF 99 5 base b (.pointer (some ⟨b,0,none⟩)) bs w' ∧ Below base w w' ∧ Lib.OthersKept 5 (some b) w w'
theorem copyCheck_any (base b : Nat) (bs : List Value) (w : World) (h : Lib.IsBuilderF 99 5 base b bs w) :
  Calls Tryz.prog 97 #[.pointer (some ⟨b,0,none⟩)] w fun e w'=>e = .returned (.tuple #[]) ∧ BldPost base b bs w w':=by
 rcases h with h | h
 ·refine (copyCheck_fresh b w h.cell0 h.shape h.frozen0).mono ?_
  rintro e w' ⟨rfl,rfl⟩
  exact ⟨rfl,h.used _,(Below.refl base w).setCell (p:=⟨b,0,none⟩) h.1 _,(Lib.OthersKept.refl _ _ w).setCell ⟨b,0,none⟩ rfl _⟩
 ·refine (copyCheck_used b w h.cell0).mono ?_
  rintro e w' ⟨rfl,rfl⟩
  exact ⟨rfl,h,Below.refl base _,Lib.OthersKept.refl _ _ _⟩
theorem block_lt {w : World} {b : Nat} {o : Obj} (h : w.heap[b]? = some o) : b < w.heap.size:=(Array.getElem?_eq_some_iff.1 h).1
set_option maxHeartbeats 4000000 in
set_option maxRecDepth 100000 in
theorem writeString_any (base b : Nat) (bs : List Value) (s : ByteArray) (w : World) (h : Lib.IsBuilderF 99 5 base b bs w) (hlen : bs.length + s.size ≤ 140737488355328) (hBw : base ≤ w.heap.size) :
  Calls Tryz.prog 49 #[.pointer (some ⟨b,0,none⟩),.string s] w fun e w'=>e = .returned (.tuple #[.int .i64 s.size,.nilIface]) ∧ BldPost base b (bs ++ Lib.strCells s) w w':=by
 obtain ⟨i0,hi,hz0,hz1,hz2⟩:=info_parts S.Builder_Extra_169.infoByte
 go_enter Tryz.func49,Tryz.ntmps49
 go_wp2_with fail
 refine (copyCheck_any base b bs _ h).mono ?_
 rintro e w1 ⟨rfl,h1,hb1,hk1⟩
 obtain ⟨hB,v,hbk,hown,hne⟩:=h1
 have hlt:=block_lt hbk
 have hsz:=hb1.size
 have c0 : w1.cell? ⟨b,0,none⟩ = some (.pointer (some ⟨b,0,none⟩)):=by rw [Lib.cell_of_heap hbk];rfl
 have c1 : w1.cell? ⟨b,1,none⟩ = some v:=by rw [Lib.cell_of_heap hbk];rfl
 go_wp2_with (at_builtin;refine Lib.wpList_append_own_stringF _ rfl _ _ 22 9 rfl base 5 i0 Tryz.underlying22 Tryz.underlying9 hi hz0 hz1 hz2 _ _ _ rfl hown s rfl ?c3 ?c4 ?c5 ?_)
 case c3=>unfold maxLen;omega
 case c4=>omega
 case c5=>omega
 intro v' w2 hown' hgrow _
 have hb2 : w2.heap[b]? = some (.cells #[.pointer (some ⟨b,0,none⟩),v] 99 (0,0)):=by
  rw [hgrow.block b hlt (fun e=>hne e.symm)]
  exact hbk
 have d0 : w2.cell? ⟨b,0,none⟩ = some (.pointer (some ⟨b,0,none⟩)):=by rw [Lib.cell_of_heap hb2];rfl
 have d1 : w2.cell? ⟨b,1,none⟩ = some v:=by rw [Lib.cell_of_heap hb2];rfl
 have f1 : w2.frozen? ⟨b,1,none⟩ = false:=Lib.frozen_of_heap hb2 1
 obtain ⟨ao,n',cap,rfl⟩ : ∃ ao n' cap,v' = .slice ao n' cap:=by
  rcases hown'.2 with ⟨hv,_⟩ | ⟨g,cap,cur,fz,hv,_⟩ <;> exact ⟨_,_,_,hv⟩
 go_wp2
 go_ret2
 refine ⟨rfl,?_,?_,(hk1.grown hgrow (Lib.ownsRowF_kind hown)).setCell ⟨b,1,none⟩ rfl _⟩
 ·exact Lib.BuilderAtF.put (T:=99) (e:=5) hB hb2 (bs':=bs ++ Lib.strCells s) (by simpa [Lib.strCells_length] using hown') (by decide)
 ·exact (hb1.grown hgrow (by omega) (fun k hk=>(hown.lt k hk).1)).setCell (p:=⟨b,1,none⟩) hB _
set_option maxHeartbeats 4000000 in
set_option maxRecDepth 100000 in
theorem writeRune_any (base b : Nat) (bs : List Value) (r : Int) (hr0 : -2147483648 ≤ r) (hr1 : r ≤ 2147483647) (w : World) (h : Lib.IsBuilderF 99 5 base b bs w) (hlen : bs.length + 4 ≤ 140737488355328) (hBw : base ≤ w.heap.size) :
  Calls Tryz.prog 50 #[.pointer (some ⟨b,0,none⟩),.int .i32 r] w fun e w'=>e = .returned (.tuple #[.int .i64 (Lib.runeCells r).length,.nilIface]) ∧ BldPost base b (bs ++ Lib.runeCells r) w w':=by
 have hk4:=Lib.runeCells_le r
 go_enter Tryz.func50,Tryz.ntmps50
 go_wp2_with fail
 refine (copyCheck_any base b bs _ h).mono ?_
 rintro e w1 ⟨rfl,h1,hb1,hk1⟩
 obtain ⟨hB,v,hbk,hown,hne⟩:=h1
 have hlt:=block_lt hbk
 have hsz:=hb1.size
 obtain ⟨ao,cap,rfl⟩ : ∃ ao cap,v = .slice ao bs.length cap:=by
  rcases hown.2 with ⟨hv,h0⟩ | ⟨g,cap,cur,fz,hv,_⟩
  ·exact ⟨none,0,by rw [hv,h0]⟩
  ·exact ⟨_,_,hv⟩
 have c0 : w1.cell? ⟨b,0,none⟩ = some (.pointer (some ⟨b,0,none⟩)):=by rw [Lib.cell_of_heap hbk];rfl
 have c1 : w1.cell? ⟨b,1,none⟩ = some (.slice ao bs.length cap):=by rw [Lib.cell_of_heap hbk];rfl
 go_wp2_with fail
 refine (Any.utf8_AppendRune_own S.lays242 S.Builder_Extra_242 base _ bs.length bs r hr0 hr1 _ hown hlen (by omega)).mono ?_
 rintro e w2 ⟨v',rfl,hown',o,hgrow⟩
 have hb2 : w2.heap[b]? = some (.cells #[.pointer (some ⟨b,0,none⟩),.slice ao bs.length cap] 99 (0,0)):=by
  rw [hgrow.block b (by simp;omega) (fun e=>hne e.symm),Lib.alloc_old w1 _ b hlt]
  exact hbk
 have d0 : w2.cell? ⟨b,0,none⟩ = some (.pointer (some ⟨b,0,none⟩)):=by rw [Lib.cell_of_heap hb2];rfl
 have d1 : w2.cell? ⟨b,1,none⟩ = some (.slice ao bs.length cap):=by rw [Lib.cell_of_heap hb2];rfl
 have f1 : w2.frozen? ⟨b,1,none⟩ = false:=Lib.frozen_of_heap hb2 1
 obtain ⟨g,cap',rfl⟩ : ∃ g cap',v' = .slice (some ⟨g,0,none⟩) (bs.length + (Lib.runeCells r).length) cap':=by
  rcases hown'.2 with ⟨_,h0⟩ | ⟨g,cap',cur,fz,hv,_⟩
  ·omega
  ·exact ⟨g,cap',hv⟩
 go_wp2
 go_ret2
 refine ⟨?_,?_,?_,((hk1.alloc _).grown hgrow (Lib.ownsRowF_kind (hown.alloc _))).setCell ⟨b,1,none⟩ rfl _⟩
 ·have e : ((bs.length : Int) + ((Lib.runeCells r).length : Int) - (bs.length : Int)) = ((Lib.runeCells r).length : Int):=by omega
  simp [e]
 ·exact Lib.BuilderAtF.put (T:=99) (e:=5) hB hb2 (bs':=bs ++ Lib.runeCells r) (by rw [List.length_append];exact hown') (by decide)
 ·exact ((hb1.alloc (by omega) _).grown hgrow (by simp;omega) (fun k hk=>(hown.lt k hk).1)).setCell (p:=⟨b,1,none⟩) hB _
theorem bldAt_below {base b : Nat} {p : Value} {bs : List Value} {w w' : World} (h : Lib.BuilderAtF 99 5 base b p bs w) (hb : Below w.heap.size w w') : Lib.BuilderAtF 99 5 base b p bs w':=by
 obtain ⟨hB,v,hbk,hown,hne⟩:=h
 exact ⟨hB,v,(hb.block b (block_lt hbk)).trans hbk,hown.kept (row:=none) ⟨hb.os,hb.tape,hb.output,hb.size,fun k hk _=>hb.block k hk⟩ (by cases v.ownBlock <;> simp),hne⟩
theorem bld_below {base b : Nat} {bs : List Value} {w w' : World} (h : Lib.IsBuilderF 99 5 base b bs w) (hb : Below w.heap.size w w') : Lib.IsBuilderF 99 5 base b bs w':=
 h.elim (fun x=>.inl (bldAt_below x hb)) (fun x=>.inr (bldAt_below x hb))
end Go.Proofs.YtjldpkhfiffinaaGreatDoor.U
