/- Contracts and plain facts that the law stands on: Rc. -/
import Derived.Test.YtjldpkhfiffinaaGreatDoorZC12
import Derived.Test.YtjldpkhfiffinaaGreatDoorZC16
import Derived.Test.YtjldpkhfiffinaaGreatDoorZC18
import Derived.Deep.RegionHeld3
namespace Go.Proofs.YtjldpkhfiffinaaGreatDoor.U
open Go.RowKit
set_option maxHeartbeats 4000000 in
set_option maxRecDepth 20000 in
theorem takeClose_out {ρ : Part} {w : World} {base rb g c j : Nat} {root : Option Tr} {ps : List Nat} {vs : List (Value × Value)} (t : Tok) (va : Value) (h : RdV ρ w base rb (stk [] root) ps vs g c) (hk : t.kind = 3) (hb0 : base ≤ w.heap.size) :
  Calls Tryz.prog 110 #[.pointer (some ⟨rb,0,none⟩),tokV t va] w fun e w'=>TakePost base rb j ρ w (stepA [] root t) e w':=by
 obtain ⟨ki,nm,tx,al,em⟩:=t
 simp only at hk
 subst hk
 unfold tokV tokCells
 simp only
 obtain ⟨W0,hW0⟩ : ∃ W0,W0 = w.alloc (.cells #[.int .i64 3,.string ⟨nm.toArray⟩,.string ⟨tx.toArray⟩,va,.bool em] 119):=⟨_,rfl⟩
 have HB0 : Hid (Below w.heap.size w W0):=Lib.hid (by rw [hW0];exact (Below.refl _ w).alloc (Nat.le_refl _) _)
 have HOU : Hid (∀ W,Below W0.heap.size W0 W → Calls Tryz.prog 140 #[.pointer (some ⟨rb,0,none⟩)] W fun e w'=>e = .returned (.bool true) ∧ Below W.heap.size W w'):=Lib.hid (fun W hb=>outside_any ((h.below HB0.out).below hb))
 clear h
 have HD:=Lib.hid (Below.refl W0.heap.size W0)
 go_enter Tryz.func110,Tryz.ntmps110
 go_wp2_with fail
 rw [← hW0]
 clear hW0
 refine wp_region_held_drew (S:=(fun W=>Hid (Below W0.heap.size W0 W))) (by kernel_rfl) ?_ (fun hHeld=>?_)
 ·(try dsimp only)
  exact Lib.hid HD.out.drew
 refine wpAnyH_take (i := 0) (oi := { dst := some 7, op := Op.move (Operand.tmp 0), type := 159, pos := "read.go:63", after := #[], guard := none }) (v := ?v1) rfl (by kernel_rfl) (by kernel_rfl) (by kernel_rfl) (fun _ _ _ h => h) (Or.inl ⟨by rfl, ?hy1⟩) (by assumption) ?rest1
 case hy1=>(intro w hSw;(try dsimp only at hSw);first | (go_simp;done) | (go_simp;with_reducible rfl))
 case rest1=>
 try simp only [Act.put,List.setIfInBounds_toArray,List.set_cons_zero,List.set_cons_succ]
 refine wpAnyH_ready (rs:=[1]) (by kernel_rfl) (by simp) ?_
 refine AllReadyH.cons (o := { dst := some 8, op := Op.call { callee := Callee.value (Operand.func 140), args := #[Operand.tmp 7], argTypes := #[159] }, type := 4, pos := "read.go:63", after := #[{ on := 0, ground := Ground.data }], guard := none }) rfl (fun K hK => ?_) AllReadyH.nil
 go_simp
 refine (HOU.out _ hHeld.out).mono ?_;rintro e w6 ⟨rfl,hM5⟩
 go_wp2_with fail
 refine hK.out _ _ ?_ (fun hHeld=>?_)
 ·(try dsimp only)
  exact Lib.hid (th hHeld.out (Nat.le_refl _) hM5)
 clear hK K
 try simp only [Act.put,List.setIfInBounds_toArray,List.set_cons_zero,List.set_cons_succ]
 refine wpAnyH_take (i := 2) (oi := { dst := some 9, op := Op.move (Operand.tmp 8), type := 4, pos := "read.go:63", after := #[{ on := 1, ground := Ground.data }, { on := 1, ground := Ground.chain }], guard := none }) (v := ?v2) rfl (by kernel_rfl) (by kernel_rfl) (by kernel_rfl) (fun _ _ _ h => h) (Or.inl ⟨by rfl, ?hy2⟩) (by assumption) ?rest2
 case hy2=>(intro w hSw;(try dsimp only at hSw);first | (go_simp;done) | (go_simp;with_reducible rfl))
 case rest2=>
 try simp only [Act.put,List.setIfInBounds_toArray,List.set_cons_zero,List.set_cons_succ]
 refine wpAnyH_take (i := 3) (oi := { dst := some 10, op := Op.move (Operand.tmp 0), type := 159, pos := "read.go:63", after := #[{ on := 2, ground := Ground.guard }], guard := some (2, false) }) (v := undef) rfl (by kernel_rfl) (by kernel_rfl) (by kernel_rfl) (fun _ _ _ h => h) (Or.inr ⟨by rfl, rfl⟩) (by assumption) ?_
 try simp only [Act.put,List.setIfInBounds_toArray,List.set_cons_zero,List.set_cons_succ]
 refine wpAnyH_take (i := 4) (oi := { dst := some 11, op := Op.call { callee := Callee.value (Operand.func 62), args := #[Operand.tmp 10], argTypes := #[159] }, type := 122, pos := "read.go:63", after := #[{ on := 3, ground := Ground.data }, { on := 2, ground := Ground.chain }, { on := 2, ground := Ground.guard }], guard := some (2, false) }) (v := undef) rfl (by kernel_rfl) (by kernel_rfl) (by kernel_rfl) (fun _ _ _ h => h) (Or.inr ⟨by rfl, rfl⟩) (by assumption) ?_
 try simp only [Act.put,List.setIfInBounds_toArray,List.set_cons_zero,List.set_cons_succ]
 refine wpAnyH_take (i := 5) (oi := { dst := some 12, op := Op.nilCheck (Operand.tmp 11), type := 0, pos := "read.go:63", after := #[{ on := 4, ground := Ground.data }, { on := 2, ground := Ground.guard }], guard := some (2, false) }) (v := undef) rfl (by kernel_rfl) (by kernel_rfl) (by kernel_rfl) (fun _ _ _ h => h) (Or.inr ⟨by rfl, rfl⟩) (by assumption) ?_
 try simp only [Act.put,List.setIfInBounds_toArray,List.set_cons_zero,List.set_cons_succ]
 refine wpAnyH_take (i := 6) (oi := { dst := some 13, op := Op.fieldAddr 27 (Operand.tmp 12) 0, type := 0, pos := "read.go:63", after := #[{ on := 5, ground := Ground.data }, { on := 2, ground := Ground.guard }], guard := some (2, false) }) (v := undef) rfl (by kernel_rfl) (by kernel_rfl) (by kernel_rfl) (fun _ _ _ h => h) (Or.inr ⟨by rfl, rfl⟩) (by assumption) ?_
 try simp only [Act.put,List.setIfInBounds_toArray,List.set_cons_zero,List.set_cons_succ]
 refine wpAnyH_take (i := 7) (oi := { dst := some 14, op := Op.load 9 (Operand.tmp 13), type := 9, pos := "read.go:63", after := #[{ on := 6, ground := Ground.data }, { on := 2, ground := Ground.guard }], guard := some (2, false) }) (v := undef) rfl (by kernel_rfl) (by kernel_rfl) (by kernel_rfl) (fun _ _ _ h => h) (Or.inr ⟨by rfl, rfl⟩) (by assumption) ?_
 try simp only [Act.put,List.setIfInBounds_toArray,List.set_cons_zero,List.set_cons_succ]
 refine wpAnyH_take (i := 8) (oi := { dst := some 15, op := Op.fieldAddr 119 (Operand.tmp 3) 1, type := 0, pos := "read.go:63", after := #[{ on := 2, ground := Ground.guard }], guard := some (2, false) }) (v := undef) rfl (by kernel_rfl) (by kernel_rfl) (by kernel_rfl) (fun _ _ _ h => h) (Or.inr ⟨by rfl, rfl⟩) (by assumption) ?_
 try simp only [Act.put,List.setIfInBounds_toArray,List.set_cons_zero,List.set_cons_succ]
 refine wpAnyH_take (i := 9) (oi := { dst := some 16, op := Op.load 9 (Operand.tmp 15), type := 9, pos := "read.go:63", after := #[{ on := 8, ground := Ground.data }, { on := 2, ground := Ground.guard }], guard := some (2, false) }) (v := undef) rfl (by kernel_rfl) (by kernel_rfl) (by kernel_rfl) (fun _ _ _ h => h) (Or.inr ⟨by rfl, rfl⟩) (by assumption) ?_
 try simp only [Act.put,List.setIfInBounds_toArray,List.set_cons_zero,List.set_cons_succ]
 refine wpAnyH_take (i := 10) (oi := { dst := some 17, op := Op.binOp BinOp.neq 9 (Operand.tmp 14) (Operand.tmp 16) 9, type := 4, pos := "read.go:63", after := #[{ on := 7, ground := Ground.data }, { on := 9, ground := Ground.data }, { on := 2, ground := Ground.guard }], guard := some (2, false) }) (v := undef) rfl (by kernel_rfl) (by kernel_rfl) (by kernel_rfl) (fun _ _ _ h => h) (Or.inr ⟨by rfl, rfl⟩) (by assumption) ?_
 try simp only [Act.put,List.setIfInBounds_toArray,List.set_cons_zero,List.set_cons_succ]
 refine wpAnyH_take (i := 11) (oi := { dst := some 18, op := Op.pick (Operand.tmp 9) (Operand.const (Value.bool true)) (Operand.tmp 17), type := 4, pos := "read.go:63", after := #[{ on := 2, ground := Ground.data }, { on := 10, ground := Ground.data }], guard := none }) (v := ?v3) rfl (by kernel_rfl) (by kernel_rfl) (by kernel_rfl) (fun _ _ _ h => h) (Or.inl ⟨by rfl, ?hy3⟩) (by assumption) ?rest3
 case hy3=>(intro w hSw;(try dsimp only at hSw);first | (go_simp;done) | (go_simp;with_reducible rfl))
 case rest3=>
 try simp only [Act.put,List.setIfInBounds_toArray,List.set_cons_zero,List.set_cons_succ]
 refine wpAnyH_done (by kernel_rfl) ?_ _
 have HB6:=Lib.hid (HB0.out.trans (hHeld.out.mono HB0.out.size))
 clear hHeld
 go_wp2
 go_ret
 exact ⟨HB6.out.mono hb0,.inl ⟨by simp [stepA],rfl,HB6.out⟩⟩
set_option maxHeartbeats 4000000 in
set_option maxRecDepth 20000 in
theorem takeClose_in {ρ : Part} {w : World} {base rb g c j : Nat} {root : Option Tr} {f : Fr} {q : List Fr} {ps : List Nat} {vs : List (Value × Value)} (t : Tok) (va : Value) (h : RdV ρ w base rb (stk (f :: q) root) ps vs g c) (hk : t.kind = 3) (hb0 : base ≤ w.heap.size) (hkl : ∀ f1 ∈ f :: q,f1.kids.length ≤ 1000000) (hrn : root = none) :
  Calls Tryz.prog 110 #[.pointer (some ⟨rb,0,none⟩),tokV t va] w fun e w'=>TakePost base rb j ρ w (stepA (f :: q) root t) e w':=by
 obtain ⟨ki,nm,tx,al,em⟩:=t
 simp only at hk
 subst hk
 unfold tokV tokCells
 simp only
 obtain ⟨W0,hW0⟩ : ∃ W0,W0 = w.alloc (.cells #[.int .i64 3,.string ⟨nm.toArray⟩,.string ⟨tx.toArray⟩,va,.bool em] 119):=⟨_,rfl⟩
 have HB0 : Hid (Below w.heap.size w W0):=Lib.hid (by rw [hW0];exact (Below.refl _ w).alloc (Nat.le_refl _) _)
 obtain ⟨u,r,hst,hul⟩:=stk_cons q root
 have hul1:=hul 1000000 (fun f hf=>hkl f (by simp [hf])) (by omega)
 have hstk : stk (f :: q) root = .node f.lb [] f.al f.kids :: u :: r:=by
  show Tr.node f.lb [] f.al f.kids :: stk q root = _
  rw [hst]
 rw [hstk] at h
 obtain ⟨p,qs,va1,vk1,q1,rfl,rfl⟩:=h.cons
 have HH:=Lib.hid h
 have HR0:=Lib.hid (h.below HB0.out)
 have HX0 : Hid (BoxK w.heap.size 3 ⟨nm.toArray⟩ ⟨tx.toArray⟩ va em W0):=Lib.hid (by rw [hW0];exact BoxK.made _ _ _ _ _ _)
 have HOU : Hid (∀ W,Below W0.heap.size W0 W → Calls Tryz.prog 140 #[.pointer (some ⟨rb,0,none⟩)] W fun e w'=>e = .returned (.bool false) ∧ Below W.heap.size W w'):=Lib.hid (fun W hb=>by
  have h9:=outside_any (HR0.out.below hb)
  rw [decide_eq_false (by simp)] at h9
  exact h9)
 have HTP : Hid (∀ W,Below W0.heap.size W0 W → Calls Tryz.prog 62 #[.pointer (some ⟨rb,0,none⟩)] W fun e w'=>e = .returned (.pointer (some ⟨p,0,none⟩)) ∧ Below W.heap.size W w'):=Lib.hid (fun W hb=>top_any (HR0.out.below hb))
 have HKP : Hid (∀ W,Below W0.heap.size W0 W → W.cell? ⟨p,0,none⟩ = some (.string ⟨f.lb.toArray⟩) ∧ W.cell? ⟨w.heap.size,1,none⟩ = some (.string ⟨nm.toArray⟩) ∧ Hid (Below W0.heap.size W0 W)):=Lib.hid (fun W hb=>by
  have h1:=(HR0.out.below hb).tops.2.1
  exact ⟨h1.at.1,(HX0.out.below hb).at.2.1,Lib.hid hb⟩)
 obtain ⟨lb,hlb⟩ : ∃ lb,lb = f.lb:=⟨_,rfl⟩
 rw [← hlb] at HKP
 have HLB:=Lib.hid hlb
 have HST:=Lib.hid hst
 have HSK:=Lib.hid hstk
 have HRN:=Lib.hid hrn
 have HD:=Lib.hid (Below.refl W0.heap.size W0)
 clear h hlb hul hst hstk hkl hrn
 by_cases hne : lb = nm
 ·subst hne
  have hnb : (lb != lb) = false:=by simp
  go_enter Tryz.func110,Tryz.ntmps110
  go_wp2_with fail
  rw [← hW0]
  clear hW0
  refine wp_region_held_drew (S:=(fun W=>W.cell? ⟨p,0,none⟩ = some (.string ⟨lb.toArray⟩) ∧ W.cell? ⟨w.heap.size,1,none⟩ = some (.string ⟨lb.toArray⟩) ∧ Hid (Below W0.heap.size W0 W))) (by kernel_rfl) ?_ (fun hHeld=>?_)
  ·(try dsimp only)
   exact HKP.out _ HD.out.drew
  refine wpAnyH_take (i := 0) (oi := { dst := some 7, op := Op.move (Operand.tmp 0), type := 159, pos := "read.go:63", after := #[], guard := none }) (v := ?v4) rfl (by kernel_rfl) (by kernel_rfl) (by kernel_rfl) (fun _ _ _ h => h) (Or.inl ⟨by rfl, ?hy4⟩) (by assumption) ?rest4
  case hy4=>(intro w hSw;(try dsimp only at hSw);first | (go_simp;done) | (go_simp;with_reducible rfl))
  case rest4=>
  try simp only [Act.put,List.setIfInBounds_toArray,List.set_cons_zero,List.set_cons_succ]
  refine wpAnyH_ready (rs:=[1]) (by kernel_rfl) (by simp) ?_
  refine AllReadyH.cons (o := { dst := some 8, op := Op.call { callee := Callee.value (Operand.func 140), args := #[Operand.tmp 7], argTypes := #[159] }, type := 4, pos := "read.go:63", after := #[{ on := 0, ground := Ground.data }], guard := none }) rfl (fun K hK => ?_) AllReadyH.nil
  go_simp
  refine (HOU.out _ hHeld.2.2.out).mono ?_;rintro e w6 ⟨rfl,hM5⟩
  go_wp2_with fail
  refine hK.out _ _ ?_ (fun hHeld=>?_)
  ·(try dsimp only)
   exact HKP.out _ (th hHeld.2.2.out (Nat.le_refl _) hM5)
  clear hK K
  try simp only [Act.put,List.setIfInBounds_toArray,List.set_cons_zero,List.set_cons_succ]
  refine wpAnyH_take (i := 2) (oi := { dst := some 9, op := Op.move (Operand.tmp 8), type := 4, pos := "read.go:63", after := #[{ on := 1, ground := Ground.data }, { on := 1, ground := Ground.chain }], guard := none }) (v := ?v5) rfl (by kernel_rfl) (by kernel_rfl) (by kernel_rfl) (fun _ _ _ h => h) (Or.inl ⟨by rfl, ?hy5⟩) (by assumption) ?rest5
  case hy5=>(intro w hSw;(try dsimp only at hSw);first | (go_simp;done) | (go_simp;with_reducible rfl))
  case rest5=>
  try simp only [Act.put,List.setIfInBounds_toArray,List.set_cons_zero,List.set_cons_succ]
  refine wpAnyH_take (i := 3) (oi := { dst := some 10, op := Op.move (Operand.tmp 0), type := 159, pos := "read.go:63", after := #[{ on := 2, ground := Ground.guard }], guard := some (2, false) }) (v := ?v6) rfl (by kernel_rfl) (by kernel_rfl) (by kernel_rfl) (fun _ _ _ h => h) (Or.inl ⟨by rfl, ?hy6⟩) (by assumption) ?rest6
  case hy6=>(intro w hSw;(try dsimp only at hSw);first | (go_simp;done) | (go_simp;with_reducible rfl))
  case rest6=>
  try simp only [Act.put,List.setIfInBounds_toArray,List.set_cons_zero,List.set_cons_succ]
  refine wpAnyH_take (i := 8) (oi := { dst := some 15, op := Op.fieldAddr 119 (Operand.tmp 3) 1, type := 0, pos := "read.go:63", after := #[{ on := 2, ground := Ground.guard }], guard := some (2, false) }) (v := ?v7) rfl (by kernel_rfl) (by kernel_rfl) (by kernel_rfl) (fun _ _ _ h => h) (Or.inl ⟨by rfl, ?hy7⟩) (by assumption) ?rest7
  case hy7=>(intro w hSw;(try dsimp only at hSw);first | (go_simp;done) | (go_simp;with_reducible rfl))
  case rest7=>
  try simp only [Act.put,List.setIfInBounds_toArray,List.set_cons_zero,List.set_cons_succ]
  refine wpAnyH_take (i := 9) (oi := { dst := some 16, op := Op.load 9 (Operand.tmp 15), type := 9, pos := "read.go:63", after := #[{ on := 8, ground := Ground.data }, { on := 2, ground := Ground.guard }], guard := some (2, false) }) (v := ?v8) rfl (by kernel_rfl) (by kernel_rfl) (by kernel_rfl) (fun _ _ _ h => h) (Or.inl ⟨by rfl, ?hy8⟩) (by assumption) ?rest8
  case hy8=>(intro w hSw;(try dsimp only at hSw);first | (go_simp;done) | (go_simp;with_reducible rfl))
  case rest8=>
  try simp only [Act.put,List.setIfInBounds_toArray,List.set_cons_zero,List.set_cons_succ]
  refine wpAnyH_ready (rs:=[4]) (by kernel_rfl) (by simp) ?_
  refine AllReadyH.cons (o := { dst := some 11, op := Op.call { callee := Callee.value (Operand.func 62), args := #[Operand.tmp 10], argTypes := #[159] }, type := 122, pos := "read.go:63", after := #[{ on := 3, ground := Ground.data }, { on := 2, ground := Ground.chain }, { on := 2, ground := Ground.guard }], guard := some (2, false) }) rfl (fun K hK => ?_) AllReadyH.nil
  go_simp
  refine (HTP.out _ hHeld.2.2.out).mono ?_;rintro e w6 ⟨rfl,hM5⟩
  go_wp2_with fail
  refine hK.out _ _ ?_ (fun hHeld=>?_)
  ·(try dsimp only)
   exact HKP.out _ (th hHeld.2.2.out (Nat.le_refl _) hM5)
  clear hK K
  try simp only [Act.put,List.setIfInBounds_toArray,List.set_cons_zero,List.set_cons_succ]
  refine wpAnyH_take (i := 5) (oi := { dst := some 12, op := Op.nilCheck (Operand.tmp 11), type := 0, pos := "read.go:63", after := #[{ on := 4, ground := Ground.data }, { on := 2, ground := Ground.guard }], guard := some (2, false) }) (v := ?v9) rfl (by kernel_rfl) (by kernel_rfl) (by kernel_rfl) (fun _ _ _ h => h) (Or.inl ⟨by rfl, ?hy9⟩) (by assumption) ?rest9
  case hy9=>(intro w hSw;(try dsimp only at hSw);first | (go_simp;done) | (go_simp;with_reducible rfl))
  case rest9=>
  try simp only [Act.put,List.setIfInBounds_toArray,List.set_cons_zero,List.set_cons_succ]
  refine wpAnyH_take (i := 6) (oi := { dst := some 13, op := Op.fieldAddr 27 (Operand.tmp 12) 0, type := 0, pos := "read.go:63", after := #[{ on := 5, ground := Ground.data }, { on := 2, ground := Ground.guard }], guard := some (2, false) }) (v := ?v10) rfl (by kernel_rfl) (by kernel_rfl) (by kernel_rfl) (fun _ _ _ h => h) (Or.inl ⟨by rfl, ?hy10⟩) (by assumption) ?rest10
  case hy10=>(intro w hSw;(try dsimp only at hSw);first | (go_simp;done) | (go_simp;with_reducible rfl))
  case rest10=>
  try simp only [Act.put,List.setIfInBounds_toArray,List.set_cons_zero,List.set_cons_succ]
  refine wpAnyH_take (i := 7) (oi := { dst := some 14, op := Op.load 9 (Operand.tmp 13), type := 9, pos := "read.go:63", after := #[{ on := 6, ground := Ground.data }, { on := 2, ground := Ground.guard }], guard := some (2, false) }) (v := ?v11) rfl (by kernel_rfl) (by kernel_rfl) (by kernel_rfl) (fun _ _ _ h => h) (Or.inl ⟨by rfl, ?hy11⟩) (by assumption) ?rest11
  case hy11=>(intro w hSw;(try dsimp only at hSw);first | (go_simp;done) | (go_simp;with_reducible rfl))
  case rest11=>
  try simp only [Act.put,List.setIfInBounds_toArray,List.set_cons_zero,List.set_cons_succ]
  refine wpAnyH_take (i := 10) (oi := { dst := some 17, op := Op.binOp BinOp.neq 9 (Operand.tmp 14) (Operand.tmp 16) 9, type := 4, pos := "read.go:63", after := #[{ on := 7, ground := Ground.data }, { on := 9, ground := Ground.data }, { on := 2, ground := Ground.guard }], guard := some (2, false) }) (v := ?v12) rfl (by kernel_rfl) (by kernel_rfl) (by kernel_rfl) (fun _ _ _ h => h) (Or.inl ⟨by rfl, ?hy12⟩) (by assumption) ?rest12
  case hy12=>(intro w hSw;(try dsimp only at hSw);first | (go_simp;done) | (go_simp;with_reducible rfl))
  case rest12=>
  try simp only [Act.put,List.setIfInBounds_toArray,List.set_cons_zero,List.set_cons_succ]
  refine wpAnyH_take (i := 11) (oi := { dst := some 18, op := Op.pick (Operand.tmp 9) (Operand.const (Value.bool true)) (Operand.tmp 17), type := 4, pos := "read.go:63", after := #[{ on := 2, ground := Ground.data }, { on := 10, ground := Ground.data }], guard := none }) (v := ?v13) rfl (by kernel_rfl) (by kernel_rfl) (by kernel_rfl) (fun _ _ _ h => h) (Or.inl ⟨by rfl, ?hy13⟩) (by assumption) ?rest13
  case hy13=>(intro w hSw;(try dsimp only at hSw);first | (go_simp;done) | (go_simp;with_reducible rfl))
  case rest13=>
  try simp only [Act.put,List.setIfInBounds_toArray,List.set_cons_zero,List.set_cons_succ]
  refine wpAnyH_done (by kernel_rfl) ?_ _
  have HB6:=Lib.hid hHeld.2.2.out
  clear hHeld
  have HR6:=Lib.hid (HR0.out.below HB6.out)
  obtain ⟨m,hm⟩ : ∃ m,m = (u :: r).length:=⟨_,rfl⟩
  obtain ⟨x0,x1,x2,_⟩:=HR6.out.at
  rw [List.length_cons,← hm] at x0 x2
  obtain ⟨x3,x4,_,_,_,ys,x9⟩:=HR6.out.tops
  rw [← hm] at x3
  obtain ⟨z0,z1,z2,z3⟩:=x4.at
  obtain ⟨av1,cv1,rfl⟩:=own_sl HR6.out.tops.2.2.1
  obtain ⟨ak1,ck1,rfl⟩:=own_sl x9
  unfold maxLen at x2
  have hmw : IntKind.i64.wrap (m : Int) = m:=wrap_small _ (by omega) (by omega)
  have hm0 : (0 : Int) ≤ m:=by omega
  have hm1 : (m : Int) < (m : Int) + 1:=by omega
  have hm2 : m ≤ m + 1:=by omega
  have hm3 : (m : Int) ≤ c:=by have:=HR6.out.at.2.2.2;rw [List.length_cons,← hm] at this;omega
  have HM:=Lib.hid hm
  have HZ6:=Lib.hid x4
  have HRP:=Lib.hid HR6.out.tops.2.2.2.1
  clear hm x4 x9
  go_upto_region 6 with fail
  obtain ⟨W7,hW7⟩ : ∃ W7,W7 = w6.setCell ⟨rb,0,none⟩ (.slice (some ⟨g,0,none⟩) m m):=⟨_,rfl⟩
  have HG7 : Hid (w6.grownBy W7 (some rb)):=Lib.hid (by rw [hW7];exact grownBy_setAt _ _ _ _)
  have hrd : W7.heap[rb]? = some (.cells #[.slice (some ⟨g,0,none⟩) (u :: r).length (u :: r).length] 125 (0,0)):=by
   rw [hW7,Go.Sort.setCell_eq]
   unfold Go.Sort.mapBlock
   rw [Array.getElem?_modify,if_pos rfl,HR6.out.1,← HM.out]
   rfl
  rw [← hW7]
  clear hW7 x0 x1 x2 x3 z0 z1 z2 z3
  obtain ⟨ρ7,hR7,hT7,hρ7⟩:=HR6.out.pop (w':=W7) HG7.out.size (fun b hb hne=>HG7.out.block b hb (fun e=>hne (Option.some.inj e))) hrd
  obtain ⟨p2,qs2,va2,vk2,q2,rfl,rfl⟩:=hR7.cons
  have hT8 : TreeS (fun g=>base ≤ g ∧ ρ7 g = (0,0)) W7 (.node f.lb [] f.al f.kids) [.string ⟨f.lb.toArray⟩,.string ⟨#[]⟩,.slice av1 f.al.length cv1,.slice ak1 f.kids.length ck1]:=hT7
  have HADD:=Lib.hid (addR_any hR7 hT8 hul1 (by have:=HB0.out.size;have:=HB6.out.size;have:=HG7.out.size;omega))
  have HTP7:=Lib.hid hR7.tops.2.2.2
  have HRO:=Lib.hid hρ7
  have HST2 : Hid (stk (addTr (.node f.lb [] f.al f.kids) q root).1 (addTr (.node f.lb [] f.al f.kids) q root).2 = .node (trL u) (trX u) (trA u) (trK u ++ [.node f.lb [] f.al f.kids]) :: r):=Lib.hid (stk_add (fun _=>HRN.out) HST.out)
  have HZ7 : Hid (Box4 p ⟨f.lb.toArray⟩ ⟨#[]⟩ (.slice av1 f.al.length cv1) (.slice ak1 f.kids.length ck1) W7):=Lib.hid ((HG7.out.block p HZ6.out.lt (fun e=>by
   have h1:=HRP.out
   have h2:=HR6.out.2.2.1
   rw [Option.some.inj e,h2] at h1
   simp at h1)).trans HZ6.out)
  obtain ⟨z0,z1,z2,z3⟩:=HZ7.out.at
  clear hR7 hT7 hT8 hρ7 hrd
  go_wp2_with fail
  (with_reducible refine HADD.out.mono ?_)
  rintro e w8 ⟨rfl,hb8,ρ8,vk8,hR8,hρ8,heq8⟩
  have HB67:=Lib.hid (HG7.out)
  have HFIN : Hid (TakePost base rb j ρ w (stepA (f :: q) root ⟨3,lb,tx,al,em⟩) (.returned (.bool true)) w8):=Lib.hid (by
   have hs0:=HB0.out.size
   have hs6:=HB6.out.size
   have hs7:=HG7.out.size
   have hbel : Below base w w8:=(((HB0.out.mono hb0).trans (HB6.out.mono (by omega))).grown HG7.out (by omega) (fun k e=>by have:=HR6.out.2.1;rw [← Option.some.inj e];exact this)).trans hb8
   refine ⟨hbel,.inr ⟨(addTr (.node f.lb [] f.al f.kids) q root).1,(addTr (.node f.lb [] f.al f.kids) q root).2,ρ8,_,_,g,_,by simp [stepA,HLB.out],rfl,by rw [HST2.out];exact hR8,fun b hb hf=>?_⟩⟩
   have h5 : 5 ≤ (ρ b).1:=by
    rcases hf with hf | ⟨hf,_⟩
    ·rw [hf];decide
    ·rw [hf];decide
   have hbad : ∀ i n,i ≤ 4 ∨ i = 6 → ρ b ≠ (i,n):=fun i n hi e=>by
    rcases hf with hf | ⟨hf,_⟩
    ·rw [e] at hf;simp at hf;omega
    ·rw [e] at hf;simp at hf;omega
   have hρb:=HRO.out b h5
   have hW7b : W7.heap[b]? = w.heap[b]?:=(HG7.out.block b (by omega) (fun e=>by
    have h9:=HR6.out.2.2.1
    rw [← Option.some.inj e] at h9
    exact hbad 6 0 (.inr rfl) h9)).trans ((HB6.out.block b (by omega)).trans (HB0.out.block b hb))
   refine ⟨(hρ8 b (by omega)).trans hρb,(heq8 b (by omega) (fun e=>?_) (fun e=>?_)).trans hW7b⟩
   ·have h9:=HTP7.out.1
    rw [← e,hρb] at h9
    exact hbad 2 _ (.inl (by omega)) h9
   ·have h9:=HTP7.out.2.1 b e.symm
    rw [hρb] at h9
    exact hbad 4 _ (.inl (by omega)) h9)
  clear hb8 hR8 hρ8 heq8
  go_wp2
  go_ret
  exact HFIN.out
 ·have hnb : (lb == nm) = false:=beq_eq_false_iff_ne.2 hne
  have HNE:=Lib.hid hne
  go_enter Tryz.func110,Tryz.ntmps110
  go_wp2_with fail
  rw [← hW0]
  clear hW0
  refine wp_region_held_drew (S:=(fun W=>W.cell? ⟨p,0,none⟩ = some (.string ⟨lb.toArray⟩) ∧ W.cell? ⟨w.heap.size,1,none⟩ = some (.string ⟨nm.toArray⟩) ∧ Hid (Below W0.heap.size W0 W))) (by kernel_rfl) ?_ (fun hHeld=>?_)
  ·(try dsimp only)
   exact HKP.out _ HD.out.drew
  refine wpAnyH_take (i := 0) (oi := { dst := some 7, op := Op.move (Operand.tmp 0), type := 159, pos := "read.go:63", after := #[], guard := none }) (v := ?v14) rfl (by kernel_rfl) (by kernel_rfl) (by kernel_rfl) (fun _ _ _ h => h) (Or.inl ⟨by rfl, ?hy14⟩) (by assumption) ?rest14
  case hy14=>(intro w hSw;(try dsimp only at hSw);first | (go_simp;done) | (go_simp;with_reducible rfl))
  case rest14=>
  try simp only [Act.put,List.setIfInBounds_toArray,List.set_cons_zero,List.set_cons_succ]
  refine wpAnyH_ready (rs:=[1]) (by kernel_rfl) (by simp) ?_
  refine AllReadyH.cons (o := { dst := some 8, op := Op.call { callee := Callee.value (Operand.func 140), args := #[Operand.tmp 7], argTypes := #[159] }, type := 4, pos := "read.go:63", after := #[{ on := 0, ground := Ground.data }], guard := none }) rfl (fun K hK => ?_) AllReadyH.nil
  go_simp
  refine (HOU.out _ hHeld.2.2.out).mono ?_;rintro e w6 ⟨rfl,hM5⟩
  go_wp2_with fail
  refine hK.out _ _ ?_ (fun hHeld=>?_)
  ·(try dsimp only)
   exact HKP.out _ (th hHeld.2.2.out (Nat.le_refl _) hM5)
  clear hK K
  try simp only [Act.put,List.setIfInBounds_toArray,List.set_cons_zero,List.set_cons_succ]
  refine wpAnyH_take (i := 2) (oi := { dst := some 9, op := Op.move (Operand.tmp 8), type := 4, pos := "read.go:63", after := #[{ on := 1, ground := Ground.data }, { on := 1, ground := Ground.chain }], guard := none }) (v := ?v15) rfl (by kernel_rfl) (by kernel_rfl) (by kernel_rfl) (fun _ _ _ h => h) (Or.inl ⟨by rfl, ?hy15⟩) (by assumption) ?rest15
  case hy15=>(intro w hSw;(try dsimp only at hSw);first | (go_simp;done) | (go_simp;with_reducible rfl))
  case rest15=>
  try simp only [Act.put,List.setIfInBounds_toArray,List.set_cons_zero,List.set_cons_succ]
  refine wpAnyH_take (i := 3) (oi := { dst := some 10, op := Op.move (Operand.tmp 0), type := 159, pos := "read.go:63", after := #[{ on := 2, ground := Ground.guard }], guard := some (2, false) }) (v := ?v16) rfl (by kernel_rfl) (by kernel_rfl) (by kernel_rfl) (fun _ _ _ h => h) (Or.inl ⟨by rfl, ?hy16⟩) (by assumption) ?rest16
  case hy16=>(intro w hSw;(try dsimp only at hSw);first | (go_simp;done) | (go_simp;with_reducible rfl))
  case rest16=>
  try simp only [Act.put,List.setIfInBounds_toArray,List.set_cons_zero,List.set_cons_succ]
  refine wpAnyH_take (i := 8) (oi := { dst := some 15, op := Op.fieldAddr 119 (Operand.tmp 3) 1, type := 0, pos := "read.go:63", after := #[{ on := 2, ground := Ground.guard }], guard := some (2, false) }) (v := ?v17) rfl (by kernel_rfl) (by kernel_rfl) (by kernel_rfl) (fun _ _ _ h => h) (Or.inl ⟨by rfl, ?hy17⟩) (by assumption) ?rest17
  case hy17=>(intro w hSw;(try dsimp only at hSw);first | (go_simp;done) | (go_simp;with_reducible rfl))
  case rest17=>
  try simp only [Act.put,List.setIfInBounds_toArray,List.set_cons_zero,List.set_cons_succ]
  refine wpAnyH_take (i := 9) (oi := { dst := some 16, op := Op.load 9 (Operand.tmp 15), type := 9, pos := "read.go:63", after := #[{ on := 8, ground := Ground.data }, { on := 2, ground := Ground.guard }], guard := some (2, false) }) (v := ?v18) rfl (by kernel_rfl) (by kernel_rfl) (by kernel_rfl) (fun _ _ _ h => h) (Or.inl ⟨by rfl, ?hy18⟩) (by assumption) ?rest18
  case hy18=>(intro w hSw;(try dsimp only at hSw);first | (go_simp;done) | (go_simp;with_reducible rfl))
  case rest18=>
  try simp only [Act.put,List.setIfInBounds_toArray,List.set_cons_zero,List.set_cons_succ]
  refine wpAnyH_ready (rs:=[4]) (by kernel_rfl) (by simp) ?_
  refine AllReadyH.cons (o := { dst := some 11, op := Op.call { callee := Callee.value (Operand.func 62), args := #[Operand.tmp 10], argTypes := #[159] }, type := 122, pos := "read.go:63", after := #[{ on := 3, ground := Ground.data }, { on := 2, ground := Ground.chain }, { on := 2, ground := Ground.guard }], guard := some (2, false) }) rfl (fun K hK => ?_) AllReadyH.nil
  go_simp
  refine (HTP.out _ hHeld.2.2.out).mono ?_;rintro e w6 ⟨rfl,hM5⟩
  go_wp2_with fail
  refine hK.out _ _ ?_ (fun hHeld=>?_)
  ·(try dsimp only)
   exact HKP.out _ (th hHeld.2.2.out (Nat.le_refl _) hM5)
  clear hK K
  try simp only [Act.put,List.setIfInBounds_toArray,List.set_cons_zero,List.set_cons_succ]
  refine wpAnyH_take (i := 5) (oi := { dst := some 12, op := Op.nilCheck (Operand.tmp 11), type := 0, pos := "read.go:63", after := #[{ on := 4, ground := Ground.data }, { on := 2, ground := Ground.guard }], guard := some (2, false) }) (v := ?v19) rfl (by kernel_rfl) (by kernel_rfl) (by kernel_rfl) (fun _ _ _ h => h) (Or.inl ⟨by rfl, ?hy19⟩) (by assumption) ?rest19
  case hy19=>(intro w hSw;(try dsimp only at hSw);first | (go_simp;done) | (go_simp;with_reducible rfl))
  case rest19=>
  try simp only [Act.put,List.setIfInBounds_toArray,List.set_cons_zero,List.set_cons_succ]
  refine wpAnyH_take (i := 6) (oi := { dst := some 13, op := Op.fieldAddr 27 (Operand.tmp 12) 0, type := 0, pos := "read.go:63", after := #[{ on := 5, ground := Ground.data }, { on := 2, ground := Ground.guard }], guard := some (2, false) }) (v := ?v20) rfl (by kernel_rfl) (by kernel_rfl) (by kernel_rfl) (fun _ _ _ h => h) (Or.inl ⟨by rfl, ?hy20⟩) (by assumption) ?rest20
  case hy20=>(intro w hSw;(try dsimp only at hSw);first | (go_simp;done) | (go_simp;with_reducible rfl))
  case rest20=>
  try simp only [Act.put,List.setIfInBounds_toArray,List.set_cons_zero,List.set_cons_succ]
  refine wpAnyH_take (i := 7) (oi := { dst := some 14, op := Op.load 9 (Operand.tmp 13), type := 9, pos := "read.go:63", after := #[{ on := 6, ground := Ground.data }, { on := 2, ground := Ground.guard }], guard := some (2, false) }) (v := ?v21) rfl (by kernel_rfl) (by kernel_rfl) (by kernel_rfl) (fun _ _ _ h => h) (Or.inl ⟨by rfl, ?hy21⟩) (by assumption) ?rest21
  case hy21=>(intro w hSw;(try dsimp only at hSw);first | (go_simp;done) | (go_simp;with_reducible rfl))
  case rest21=>
  try simp only [Act.put,List.setIfInBounds_toArray,List.set_cons_zero,List.set_cons_succ]
  refine wpAnyH_take (i := 10) (oi := { dst := some 17, op := Op.binOp BinOp.neq 9 (Operand.tmp 14) (Operand.tmp 16) 9, type := 4, pos := "read.go:63", after := #[{ on := 7, ground := Ground.data }, { on := 9, ground := Ground.data }, { on := 2, ground := Ground.guard }], guard := some (2, false) }) (v := ?v22) rfl (by kernel_rfl) (by kernel_rfl) (by kernel_rfl) (fun _ _ _ h => h) (Or.inl ⟨by rfl, ?hy22⟩) (by assumption) ?rest22
  case hy22=>(intro w hSw;(try dsimp only at hSw);first | (go_simp;done) | (go_simp;with_reducible rfl))
  case rest22=>
  try simp only [Act.put,List.setIfInBounds_toArray,List.set_cons_zero,List.set_cons_succ]
  refine wpAnyH_take (i := 11) (oi := { dst := some 18, op := Op.pick (Operand.tmp 9) (Operand.const (Value.bool true)) (Operand.tmp 17), type := 4, pos := "read.go:63", after := #[{ on := 2, ground := Ground.data }, { on := 10, ground := Ground.data }], guard := none }) (v := ?v23) rfl (by kernel_rfl) (by kernel_rfl) (by kernel_rfl) (fun _ _ _ h => h) (Or.inl ⟨by rfl, ?hy23⟩) (by assumption) ?rest23
  case hy23=>(intro w hSw;(try dsimp only at hSw);first | (go_simp;done) | (go_simp;with_reducible rfl))
  case rest23=>
  try simp only [Act.put,List.setIfInBounds_toArray,List.set_cons_zero,List.set_cons_succ]
  refine wpAnyH_done (by kernel_rfl) ?_ _
  have HB6:=Lib.hid (HB0.out.trans (hHeld.2.2.out.mono HB0.out.size))
  clear hHeld hnb hne
  go_wp2
  go_ret
  exact ⟨HB6.out.mono hb0,.inl ⟨by simp [stepA,← HLB.out,HNE.out],rfl,HB6.out⟩⟩
end Go.Proofs.YtjldpkhfiffinaaGreatDoor.U
