/- The contract of utf.walk where it hands characters to a loop's body, and of the iterator of utf.All. -/
import Derived.RangeFuncNested
import Derived.RangeFuncBound
import Derived.RangeFuncCalls
import Derived.RangeFuncLeaves
import Derived.Shelf.Abstract
import Derived.Shelf.RegionOpen
import Derived.OwnWalkIn
import Derived.TacticsInMore
import Derived.LoopNIn
import Derived.LoopIn
import Derived.Test.YtomlmpcjbdkobaaDoorDecode
import Derived.Test.YtomlmpcjbdkobaaDoorPrs
import Derived.Test.YtomlmpcjbdkobaaDoorCheck
namespace Go.Proofs.YtomlmpcjbdkobaaDoor.U
open Go.RowKit Go.Shelf
attribute [local go_sem] Oper.semAt_some

theorem roundIn_anyDepth {F : Fence} (hd : F.depth = none) {m m' : Nat} {P : Program} {l : Nat} {f : FuncId} {tmps : Array Value} {assign body : Code} {w : World} {R : Ending → World → Prop}
    (h : RoundIn F m P l f tmps assign body w R) : RoundIn F m' P l f tmps assign body w R := ⟨h.1, fun c cs _ => h.2 c cs (fun d h => by rw [hd] at h; cases h)⟩
theorem yieldAt_anyDepth {F : Fence} (hd : F.depth = none) {m : Nat} (m' : Nat) {P : Program} {l : Nat} {args : Array Value} {W : World} {R : Ending → World → Prop} (h : YieldAt F m P l args W R) : YieldAt F m' P l args W R := by
  obtain ⟨fn, tmps, assign, body, hy, hR⟩ := h
  exact ⟨fn, tmps, assign, body, hy, roundIn_anyDepth hd hR⟩

theorem wide_le {n : Nat} : Fence.wide.depth.isSome = true → 1 ≤ n := fun h => by cases h

set_option maxRecDepth 100000 in
set_option maxHeartbeats 2000000 in
theorem walk_yield (n l n₀ b off len cap : Nat) (zs : List Int) (J Jx : List Ch → World → Prop)
    (hY : ∀ m pre x W, J pre W → pre.length < (prsC zs).length → YieldAt Fence.wide m Tryd.prog l (encCh x) W fun e W' =>
      (e = .returned (.bool true) ∧ J (pre ++ [x]) W' ∧ Below n₀ W W') ∨ (e = .returned (.bool false) ∧ Jx (pre ++ [x]) W'))
    (W : World) (hJa : AbidesFrom W.heap.size J) (hl : Lay W) (hn₀ : 2 ≤ n₀) (hzl : zs.length = len) (hcap : len ≤ cap) (hb : ∀ z ∈ zs, 0 ≤ z ∧ z ≤ 255) (hbn : b < n₀)
    (hcell : ∀ i, i < len → W.cell? ⟨b, off + i, none⟩ = some (.int .u8 (zs[i]?.getD 0))) (hlen : len ≤ 140737488351232) (hnW : n₀ ≤ W.heap.size) (h0 : J [] W) :
    CallsIn Fence.wide n Tryd.prog 19 #[.slice (some ⟨b, off, none⟩) len cap, .func (.yield l) #[] #[]] W fun e W' => (∃ v, e = .returned v) ∧
      ((∃ ys : List Ch, ys.map (·.1) = prsC zs ∧ J ys W') ∨ (∃ pre : List Ch, pre.map (·.1) <+: prsC zs ∧ Jx pre W')) := by
  have HL := Lib.hid hl
  have HZ := Lib.hid hzl
  have HB := Lib.hid hb
  have HC := Lib.hid hcell
  have HY := Lib.hid hY
  clear hl hzl hb hcell hY
  refine callsIn_of_wp Tryd.func19 rfl trivial ?_ rfl
  simp only [Tryd.ntmps19, List.size_toArray, List.length_cons, List.length_nil, Nat.reduceAdd, Nat.reduceSub, Array.replicate_succ, Array.replicate_zero, List.push_toArray, List.append_toArray, List.nil_append, List.cons_append]
  gi_wp2_with fail
  refine wpIn_wide.2 (wp_scope_straight ((wpIn_wide (n := n)).1 ?_))
  gi_wp2_with fail
  refine wpIn_label ?_
  gi_wp2_with fail
  gi_loopw [5] (fun i wr => ∃ (p : Nat) (pre : List Ch), p ≤ len ∧ i = .int .i64 p ∧ Hid (pre.map (·.1) ++ prs p (runesC (zs.drop p)) = prsC zs) ∧ J pre wr ∧ Below n₀ W wr)
    (fun i _ => len - (intOf i).toNat)
  case atStart => exact ⟨0, [], by omega, rfl, by unfold Hid; rfl, h0, Below.refl _ _⟩
  case round =>
    obtain ⟨p, pre, hp, rfl, hch, hJ, hB⟩ := hrel
    have hlay := Lib.hid (HL.out.below hB hn₀)
    have hsz : W.heap.size ≤ wr.heap.size := hB.size
    by_cases hlt : p < len
    · have hc2 : ∀ i, i < len → wr.cell? ⟨b, off + i, none⟩ = some (.int .u8 (zs[i]?.getD 0)) := fun i hi => (hB.cell (p := ⟨b, off + i, none⟩) hbn).trans (HC.out i hi)
      have HC2 := Lib.hid hc2
      have HBe := Lib.hid hB
      have HJ := Lib.hid hJ
      clear hc2 hB hJ
      gi_wp2_with fail
      refine ⟨trivial, wide_le, ?_⟩
      refine (callsIn_wide.2 (decode_in b off len cap p zs _ hlay.out HZ.out hcap HB.out HC2.out hlen hlt)).mono ?_
      rintro e w2 ⟨hb2, he⟩
      have hJ2 : J pre w2 := hJa pre wr w2 none HJ.out ⟨hb2.os, hb2.tape, hb2.output, hb2.size, fun k hk _ => hb2.block k hk⟩ (fun r e => by cases e)
      have hB2 : Below n₀ W w2 := HBe.out.trans (hb2.mono (Nat.le_trans hnW hsz))
      have HJ2 := Lib.hid hJ2
      have HB2 := Lib.hid hB2
      clear hJ2 hB2 hb2
      cases hd : decC (zs.drop p) with
      | none =>
        rw [hd] at he
        subst he
        have HD := Lib.hid (runesC_none hd)
        clear hd
        gi_wp2
        rw [Exit.noGoto_ret]
        go_ret
        exact ⟨⟨_, rfl⟩, .inl ⟨pre, by have := hch.out; rw [HD.out] at this; simpa [prs] using this, HJ2.out⟩⟩
      | some x =>
        obtain ⟨r, m⟩ := x
        rw [hd] at he
        subst he
        have hs := decC_some hd
        have HD := Lib.hid (runesC_some hd)
        have hln : p + m ≤ len := by
          have h3 := hs.2.2.1
          have h4 := HZ.out
          simp only [List.length_drop] at h3
          omega
        have hm1 := hs.1
        have HS := Lib.hid hs
        clear hd hs
        have hlen2 : pre.length < (prsC zs).length := by
          have := hch.out
          rw [HD.out] at this
          rw [← this]
          simp [prs]
        obtain ⟨fn, tmps, assign, body, hy, hR⟩ := HY.out (n - 1) pre ⟨(p, r), by simp only; omega, HS.out.2.2.2.1⟩ w2 HJ2.out hlen2
        dsimp only [encCh] at hy
        have HR := Lib.hid hR
        clear hR hlen2
        gi_wp2_with fail
        refine ⟨wide_le, HR.out.mono ?_⟩
        rintro e W3 (⟨rfl, hJ3, hk3⟩ | ⟨rfl, hJx3⟩)
        · have hch2 : (pre ++ [(⟨(p, r), by simp only; omega, HS.out.2.2.2.1⟩ : Ch)]).map (·.1) ++ prs (p + m) (runesC (zs.drop (p + m))) = prsC zs := by
            have := hch.out
            rw [HD.out, List.drop_drop] at this
            rw [← this]
            simp [prs, HS.out.2.2.2.2]
          have HCH2 := Lib.hid hch2
          have HJ3 := Lib.hid hJ3
          have HB3 := Lib.hid (HB2.out.trans hk3)
          clear hch2 hJ3 hk3
          gi_wp2
          go_roundw
          case rel => exact ⟨p + m, _, hln, by go_num, HCH2, HJ3.out, HB3.out⟩
          case measure => simp [intOf]; omega
        · have hpr : (pre ++ [(⟨(p, r), by simp only; omega, HS.out.2.2.2.1⟩ : Ch)]).map (·.1) <+: prsC zs := by
            have := hch.out
            rw [HD.out] at this
            rw [← this]
            simp [prs]
          have HPR := Lib.hid hpr
          have HJ3 := Lib.hid hJx3
          clear hpr hJx3
          gi_wp2
          rw [Exit.noGoto_ret]
          go_ret
          exact ⟨⟨_, rfl⟩, .inr ⟨_, HPR.out, HJ3.out⟩⟩
    · obtain rfl : p = len := by omega
      gi_wp2
      rw [Exit.noGoto_ret]
      go_ret
      exact ⟨⟨_, rfl⟩, .inl ⟨pre, by have := hch.out; rw [List.drop_of_length_le (by have := HZ.out; omega)] at this; simpa [prs, runesC, runesF] using this, hJ⟩⟩
end Go.Proofs.YtomlmpcjbdkobaaDoor.U
