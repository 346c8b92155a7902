/- The contract of utf.put. -/
import Derived.Test.YtomlmpcjbdkobaaDoorSize
import Derived.Test.YtomlmpcjbdkobaaDoorEnc
import Derived.Test.YtomlmpcjbdkobaaDoorSmall
import Derived.Test.YtomlmpcjbdkobaaDoorBits
import Derived.Deep.RegionLaw
import Derived.Maps.AppendAt
import Derived.BigRegion
import Derived.RangeFuncBox
namespace Go.Proofs.YtomlmpcjbdkobaaDoor.U
open Go.RowKit

theorem size_is (r : Int) (n : Nat) (w : World) (hl : Lay w) (hn : sizeC r = n) : Calls Tryd.prog 25 #[.int .i32 r] w fun e w' => e = .returned (.int .i64 n) ∧ w = w' := by
  subst hn; exact size_any r w hl

theorem info5 : (Tryd.prog.info? 5).map (fun i => (i.zero, i.size, i.bytes)) = some (some (.int .u8 0), 1, 1) := by kernel_rfl

/-- append to a row of the call's own, as one step of a region that draws its order. -/
theorem step_append_own {P : Program} {ops : Array Oper} {o : Oper} {a : Act} {w : World} {K : Act → World → Prop} {Q : Exit → Act → World → Prop} {E : Prop} (hg : o.guard = none) (s x : Operand) (t : TypeId)
    (ho : o.op = .call { callee := .builtin .append, args := #[s, x], argTypes := #[t, t] })
    (base : Nat) (e : TypeId) (i : TypeInfo) (z : Value) (size bytes : Nat) (ht : P.underlying t = some (.slice e)) (hi : P.info? e = some i) (hz : i.zero = some z)
    (hsize : i.size = size) (hby : i.bytes = bytes) (hzs : z.cells.size = size) (hsz : 0 < size)
    (v : Value) (n : Nat) (xs : List Value) (hs : a.eval s = v) (hown : w.ownsRow base e size v n xs)
    (ad : Addr) (m c : Nat) (news : List Value) (hx : a.eval x = .slice (some ad) m c) (hl : news.length = m * size) (hnews : ∀ j u, news[j]? = some u → w.cell? (ad.add j) = some u) (h1 : ∀ u ∈ news, u.oneCell' = true)
    (h63 : n + m ≤ maxLen) (hbytes : (n + m) * bytes ≤ 140737488355328) (hbase : base ≤ w.heap.size)
    (h : ∀ v' w', w'.ownsRow base e size v' (n + m) (xs ++ news) → w.grownBy w' v.ownBlock → (v' = .slice none 0 0 ↔ v = .slice none 0 0 ∧ m = 0) → K (a.put o.dst v') w') :
    if Region.wanted o (yielded ops a.tmps) = true then Oper.wp P o a w K Q else E := by
  have hw : Region.wanted o (yielded ops a.tmps) = true := by simp [Region.wanted, hg]
  rw [if_pos hw]
  exact wp_append_own w s x t ho base e i z size bytes ht hi hz hsize hby hzs hsz v n xs hs hown ad m c news hx hl hnews h1 h63 hbytes hbase h

def PutPost (base : Nat) (n : Nat) (xs : List Value) (ys : List Int) (w : World) (e : Ending) (w' : World) : Prop :=
  ∃ v', e = .returned v' ∧ w'.ownsRow base 5 1 v' (n + ys.length) (xs ++ ys.map (Value.int .u8)) ∧ Below base w w'

set_option maxHeartbeats 1000000 in
theorem put_1 (r : Int) (v : Value) (n : Nat) (xs : List Value) (base : Nat) (w : World) (hl : Lay w) (hbs : base ≤ w.heap.size) (hown : w.ownsRow base 5 1 v n xs) (hn : n ≤ 1000000)
    (h0 : 9 ≤ r) (h1 : r < 128) : Calls Tryd.prog 17 #[v, .int .i32 r] w fun e w' => PutPost base n xs (encC r) w e w' := by
  obtain ⟨i0, hi, hz0, hz1, hz2⟩ := info_parts info5
  obtain ⟨c0, c1, _, c3, c4, _, c6, c7, _, _, c10, _⟩ := hl.row
  have HS := Lib.hid (sizeC_1 h1)
  have HE := Lib.hid (encC_1 h1)
  have HL := Lib.hid hl
  clear hl
  have hw0 : IntKind.i64.wrap 0 = 0 := by decide
  have hwr : IntKind.u8.wrap (r) = r := wrap_u8_in _ (by omega) (by omega)
  have hbit : bits BinOp.or IntKind.u8 0 (r) = r := or0 _ (by omega) (by omega)
  go_enter Tryd.func17, Tryd.ntmps17
  go_wp2_with (go_at_call 25; refine (size_is r 1 _ HL.out HS.out).mono ?_; rintro e w' ⟨rfl, rfl⟩)
  go_region_law (refine step_append_own rfl (.tmp 12) (.tmp 23) 24 rfl base 5 i0 (.int .u8 0) 1 1 Tryd.underlying24 hi hz0 hz1 hz2 rfl (by decide) v n xs (by simp [Act.eval]) (hown.drew.alloc _) ⟨w.heap.size, 0, none⟩ 1 1 [.int .u8 (r)] (by simp [Act.eval]) rfl (cell_one_new _ _ _) (by simp [Value.oneCell']) (by unfold maxLen; omega) (by omega) (by simp; omega) ?_; intro v1 w1 hown1 hgrow1 _)
  obtain ⟨g1, k1, rfl⟩ := ownsRow_succ hown1
  have hB1 : Below base w w1 := ((al (Below.refl base w) hbs _).drew).grown hgrow1 (by simp; omega) (fun k e => (hown.lt k e).1)
  clear hgrow1 hown c0 c1 c3 c4 c6 c7 c10 hwr hbit
  go_wp2
  refine wp_loop_rounds 1 ?_
  rw [rounds_succ]
  go_wp2
  go_ret
  exact ⟨_, rfl, by rw [HE.out]; exact hown1, hB1⟩

set_option maxHeartbeats 1000000 in
theorem put_2 (r : Int) (v : Value) (n : Nat) (xs : List Value) (base : Nat) (w : World) (hl : Lay w) (hbs : base ≤ w.heap.size) (hown : w.ownsRow base 5 1 v n xs) (hn : n ≤ 1000000)
    (h0 : 128 ≤ r) (h1 : r < 2048) : Calls Tryd.prog 17 #[v, .int .i32 r] w fun e w' => PutPost base n xs (encC r) w e w' := by
  obtain ⟨i0, hi, hz0, hz1, hz2⟩ := info_parts info5
  obtain ⟨c0, c1, _, c3, c4, _, c6, c7, _, _, c10, _⟩ := hl.row
  have HS := Lib.hid (sizeC_2 h0 h1)
  have HE := Lib.hid (encC_2 h0 h1)
  have HL := Lib.hid hl
  clear hl
  have hw0 : IntKind.i64.wrap 0 = 0 := by decide
  have hw1 : IntKind.i64.wrap 1 = 1 := by decide
  have hw6 : IntKind.i64.wrap 6 = 6 := by decide
  have hwr : IntKind.u8.wrap (r / 64) = r / 64 := wrap_u8_in _ (by omega) (by omega)
  have hbit : bits BinOp.or IntKind.u8 192 (r / 64) = 192 + r / 64 := or192 _ (by omega) (by omega)
  go_enter Tryd.func17, Tryd.ntmps17
  go_wp2_with (go_at_call 25; refine (size_is r 2 _ HL.out HS.out).mono ?_; rintro e w' ⟨rfl, rfl⟩)
  go_region_law (refine step_append_own rfl (.tmp 12) (.tmp 23) 24 rfl base 5 i0 (.int .u8 0) 1 1 Tryd.underlying24 hi hz0 hz1 hz2 rfl (by decide) v n xs (by simp [Act.eval]) (hown.drew.alloc _) ⟨w.heap.size, 0, none⟩ 1 1 [.int .u8 (192 + r / 64)] (by simp [Act.eval]) rfl (cell_one_new _ _ _) (by simp [Value.oneCell']) (by unfold maxLen; omega) (by omega) (by simp; omega) ?_; intro v1 w1 hown1 hgrow1 _)
  obtain ⟨g1, k1, rfl⟩ := ownsRow_succ hown1
  have hB1 : Below base w w1 := ((al (Below.refl base w) hbs _).drew).grown hgrow1 (by simp; omega) (fun k e => (hown.lt k e).1)
  clear hgrow1 hown c0 c1 c3 c4 c6 c7 c10 hwr hbit
  go_wp2
  refine wp_loop_rounds 2 ?_
  rw [rounds_succ]
  have hs1 := hB1.size
  have hx1 : IntKind.u8.wrap (r) = (r) % 256 := wrap_u8 _
  have ha1 : bits BinOp.and IntKind.u8 ((r) % 256) 63 = (r) % 64 := by rw [and63 _ (by omega) (by omega)]; omega
  have ho1 : bits BinOp.or IntKind.u8 128 ((r) % 64) = 128 + r % 64 := or128 _ (by omega) (by omega)
  go_wp2_with (at_builtin; refine wpList_append_own _ rfl _ _ 24 rfl base 5 i0 (.int .u8 0) 1 1 Tryd.underlying24 hi hz0 hz1 hz2 rfl (by decide) _ _ _ rfl (hown1.alloc _) ⟨w1.heap.size, 0, none⟩ 1 1 [.int .u8 (128 + r % 64)] rfl rfl (cell_one_new _ _ _) (by simp [Value.oneCell']) (by unfold maxLen; omega) (by omega) (by simp; omega) ?_; intro v2 w2 hown2 hgrow2 _; obtain ⟨g2, k2, rfl⟩ := ownsRow_succ hown2; have hB2 : Below base w w2 := (al hB1 hbs _).grown hgrow2 (by simp; omega) (fun k e => (hown1.lt k e).1); clear hgrow2 hx1 ha1 ho1)
  rw [rounds_succ]
  go_wp2
  go_ret
  exact ⟨_, rfl, by rw [HE.out]; simpa using hown2, hB2⟩

set_option maxHeartbeats 1000000 in
theorem put_3 (r : Int) (v : Value) (n : Nat) (xs : List Value) (base : Nat) (w : World) (hl : Lay w) (hbs : base ≤ w.heap.size) (hown : w.ownsRow base 5 1 v n xs) (hn : n ≤ 1000000)
    (h0 : 2048 ≤ r) (h1 : r < 65536) : Calls Tryd.prog 17 #[v, .int .i32 r] w fun e w' => PutPost base n xs (encC r) w e w' := by
  obtain ⟨i0, hi, hz0, hz1, hz2⟩ := info_parts info5
  obtain ⟨c0, c1, _, c3, c4, _, c6, c7, _, _, c10, _⟩ := hl.row
  have HS := Lib.hid (sizeC_3 h0 h1)
  have HE := Lib.hid (encC_3 h0 h1)
  have HL := Lib.hid hl
  clear hl
  have hw0 : IntKind.i64.wrap 0 = 0 := by decide
  have hw2 : IntKind.i64.wrap 2 = 2 := by decide
  have hw6 : IntKind.i64.wrap 12 = 12 := by decide
  have hwr : IntKind.u8.wrap (r / 4096) = r / 4096 := wrap_u8_in _ (by omega) (by omega)
  have hbit : bits BinOp.or IntKind.u8 224 (r / 4096) = 224 + r / 4096 := or224 _ (by omega) (by omega)
  go_enter Tryd.func17, Tryd.ntmps17
  go_wp2_with (go_at_call 25; refine (size_is r 3 _ HL.out HS.out).mono ?_; rintro e w' ⟨rfl, rfl⟩)
  go_region_law (refine step_append_own rfl (.tmp 12) (.tmp 23) 24 rfl base 5 i0 (.int .u8 0) 1 1 Tryd.underlying24 hi hz0 hz1 hz2 rfl (by decide) v n xs (by simp [Act.eval]) (hown.drew.alloc _) ⟨w.heap.size, 0, none⟩ 1 1 [.int .u8 (224 + r / 4096)] (by simp [Act.eval]) rfl (cell_one_new _ _ _) (by simp [Value.oneCell']) (by unfold maxLen; omega) (by omega) (by simp; omega) ?_; intro v1 w1 hown1 hgrow1 _)
  obtain ⟨g1, k1, rfl⟩ := ownsRow_succ hown1
  have hB1 : Below base w w1 := ((al (Below.refl base w) hbs _).drew).grown hgrow1 (by simp; omega) (fun k e => (hown.lt k e).1)
  clear hgrow1 hown c0 c1 c3 c4 c6 c7 c10 hwr hbit
  go_wp2
  refine wp_loop_rounds 3 ?_
  rw [rounds_succ]
  have hs1 := hB1.size
  have hx1 : IntKind.u8.wrap (r / 64) = (r / 64) % 256 := wrap_u8 _
  have ha1 : bits BinOp.and IntKind.u8 ((r / 64) % 256) 63 = (r / 64) % 64 := by rw [and63 _ (by omega) (by omega)]; omega
  have ho1 : bits BinOp.or IntKind.u8 128 ((r / 64) % 64) = 128 + r / 64 % 64 := or128 _ (by omega) (by omega)
  go_wp2_with (at_builtin; refine wpList_append_own _ rfl _ _ 24 rfl base 5 i0 (.int .u8 0) 1 1 Tryd.underlying24 hi hz0 hz1 hz2 rfl (by decide) _ _ _ rfl (hown1.alloc _) ⟨w1.heap.size, 0, none⟩ 1 1 [.int .u8 (128 + r / 64 % 64)] rfl rfl (cell_one_new _ _ _) (by simp [Value.oneCell']) (by unfold maxLen; omega) (by omega) (by simp; omega) ?_; intro v2 w2 hown2 hgrow2 _; obtain ⟨g2, k2, rfl⟩ := ownsRow_succ hown2; have hB2 : Below base w w2 := (al hB1 hbs _).grown hgrow2 (by simp; omega) (fun k e => (hown1.lt k e).1); clear hgrow2 hx1 ha1 ho1)
  rw [rounds_succ]
  have hs2 := hB2.size
  have hx2 : IntKind.u8.wrap (r) = (r) % 256 := wrap_u8 _
  have ha2 : bits BinOp.and IntKind.u8 ((r) % 256) 63 = (r) % 64 := by rw [and63 _ (by omega) (by omega)]; omega
  have ho2 : bits BinOp.or IntKind.u8 128 ((r) % 64) = 128 + r % 64 := or128 _ (by omega) (by omega)
  go_wp2_with (at_builtin; refine wpList_append_own _ rfl _ _ 24 rfl base 5 i0 (.int .u8 0) 1 1 Tryd.underlying24 hi hz0 hz1 hz2 rfl (by decide) _ _ _ rfl (hown2.alloc _) ⟨w2.heap.size, 0, none⟩ 1 1 [.int .u8 (128 + r % 64)] rfl rfl (cell_one_new _ _ _) (by simp [Value.oneCell']) (by unfold maxLen; omega) (by omega) (by simp; omega) ?_; intro v3 w3 hown3 hgrow3 _; obtain ⟨g3, k3, rfl⟩ := ownsRow_succ hown3; have hB3 : Below base w w3 := (al hB2 hbs _).grown hgrow3 (by simp; omega) (fun k e => (hown2.lt k e).1); clear hgrow3 hx2 ha2 ho2)
  rw [rounds_succ]
  go_wp2
  go_ret
  exact ⟨_, rfl, by rw [HE.out]; simpa using hown3, hB3⟩

set_option maxHeartbeats 1000000 in
theorem put_4 (r : Int) (v : Value) (n : Nat) (xs : List Value) (base : Nat) (w : World) (hl : Lay w) (hbs : base ≤ w.heap.size) (hown : w.ownsRow base 5 1 v n xs) (hn : n ≤ 1000000)
    (h0 : 65536 ≤ r) (h1 : r < 2097152) : Calls Tryd.prog 17 #[v, .int .i32 r] w fun e w' => PutPost base n xs (encC r) w e w' := by
  obtain ⟨i0, hi, hz0, hz1, hz2⟩ := info_parts info5
  obtain ⟨c0, c1, _, c3, c4, _, c6, c7, _, _, c10, _⟩ := hl.row
  have HS := Lib.hid (sizeC_4 h0)
  have HE := Lib.hid (encC_4 h0)
  have HL := Lib.hid hl
  clear hl
  have hw0 : IntKind.i64.wrap 0 = 0 := by decide
  have hw3 : IntKind.i64.wrap 3 = 3 := by decide
  have hw6 : IntKind.i64.wrap 18 = 18 := by decide
  have hwr : IntKind.u8.wrap (r / 262144) = r / 262144 := wrap_u8_in _ (by omega) (by omega)
  have hbit : bits BinOp.or IntKind.u8 240 (r / 262144) = 240 + r / 262144 := or240 _ (by omega) (by omega)
  go_enter Tryd.func17, Tryd.ntmps17
  go_wp2_with (go_at_call 25; refine (size_is r 4 _ HL.out HS.out).mono ?_; rintro e w' ⟨rfl, rfl⟩)
  go_region_law (refine step_append_own rfl (.tmp 12) (.tmp 23) 24 rfl base 5 i0 (.int .u8 0) 1 1 Tryd.underlying24 hi hz0 hz1 hz2 rfl (by decide) v n xs (by simp [Act.eval]) (hown.drew.alloc _) ⟨w.heap.size, 0, none⟩ 1 1 [.int .u8 (240 + r / 262144)] (by simp [Act.eval]) rfl (cell_one_new _ _ _) (by simp [Value.oneCell']) (by unfold maxLen; omega) (by omega) (by simp; omega) ?_; intro v1 w1 hown1 hgrow1 _)
  obtain ⟨g1, k1, rfl⟩ := ownsRow_succ hown1
  have hB1 : Below base w w1 := ((al (Below.refl base w) hbs _).drew).grown hgrow1 (by simp; omega) (fun k e => (hown.lt k e).1)
  clear hgrow1 hown c0 c1 c3 c4 c6 c7 c10 hwr hbit
  go_wp2
  refine wp_loop_rounds 4 ?_
  rw [rounds_succ]
  have hs1 := hB1.size
  have hx1 : IntKind.u8.wrap (r / 4096) = (r / 4096) % 256 := wrap_u8 _
  have ha1 : bits BinOp.and IntKind.u8 ((r / 4096) % 256) 63 = (r / 4096) % 64 := by rw [and63 _ (by omega) (by omega)]; omega
  have ho1 : bits BinOp.or IntKind.u8 128 ((r / 4096) % 64) = 128 + r / 4096 % 64 := or128 _ (by omega) (by omega)
  go_wp2_with (at_builtin; refine wpList_append_own _ rfl _ _ 24 rfl base 5 i0 (.int .u8 0) 1 1 Tryd.underlying24 hi hz0 hz1 hz2 rfl (by decide) _ _ _ rfl (hown1.alloc _) ⟨w1.heap.size, 0, none⟩ 1 1 [.int .u8 (128 + r / 4096 % 64)] rfl rfl (cell_one_new _ _ _) (by simp [Value.oneCell']) (by unfold maxLen; omega) (by omega) (by simp; omega) ?_; intro v2 w2 hown2 hgrow2 _; obtain ⟨g2, k2, rfl⟩ := ownsRow_succ hown2; have hB2 : Below base w w2 := (al hB1 hbs _).grown hgrow2 (by simp; omega) (fun k e => (hown1.lt k e).1); clear hgrow2 hx1 ha1 ho1)
  rw [rounds_succ]
  have hs2 := hB2.size
  have hx2 : IntKind.u8.wrap (r / 64) = (r / 64) % 256 := wrap_u8 _
  have ha2 : bits BinOp.and IntKind.u8 ((r / 64) % 256) 63 = (r / 64) % 64 := by rw [and63 _ (by omega) (by omega)]; omega
  have ho2 : bits BinOp.or IntKind.u8 128 ((r / 64) % 64) = 128 + r / 64 % 64 := or128 _ (by omega) (by omega)
  go_wp2_with (at_builtin; refine wpList_append_own _ rfl _ _ 24 rfl base 5 i0 (.int .u8 0) 1 1 Tryd.underlying24 hi hz0 hz1 hz2 rfl (by decide) _ _ _ rfl (hown2.alloc _) ⟨w2.heap.size, 0, none⟩ 1 1 [.int .u8 (128 + r / 64 % 64)] rfl rfl (cell_one_new _ _ _) (by simp [Value.oneCell']) (by unfold maxLen; omega) (by omega) (by simp; omega) ?_; intro v3 w3 hown3 hgrow3 _; obtain ⟨g3, k3, rfl⟩ := ownsRow_succ hown3; have hB3 : Below base w w3 := (al hB2 hbs _).grown hgrow3 (by simp; omega) (fun k e => (hown2.lt k e).1); clear hgrow3 hx2 ha2 ho2)
  rw [rounds_succ]
  have hs3 := hB3.size
  have hx3 : IntKind.u8.wrap (r) = (r) % 256 := wrap_u8 _
  have ha3 : bits BinOp.and IntKind.u8 ((r) % 256) 63 = (r) % 64 := by rw [and63 _ (by omega) (by omega)]; omega
  have ho3 : bits BinOp.or IntKind.u8 128 ((r) % 64) = 128 + r % 64 := or128 _ (by omega) (by omega)
  go_wp2_with (at_builtin; refine wpList_append_own _ rfl _ _ 24 rfl base 5 i0 (.int .u8 0) 1 1 Tryd.underlying24 hi hz0 hz1 hz2 rfl (by decide) _ _ _ rfl (hown3.alloc _) ⟨w3.heap.size, 0, none⟩ 1 1 [.int .u8 (128 + r % 64)] rfl rfl (cell_one_new _ _ _) (by simp [Value.oneCell']) (by unfold maxLen; omega) (by omega) (by simp; omega) ?_; intro v4 w4 hown4 hgrow4 _; obtain ⟨g4, k4, rfl⟩ := ownsRow_succ hown4; have hB4 : Below base w w4 := (al hB3 hbs _).grown hgrow4 (by simp; omega) (fun k e => (hown3.lt k e).1); clear hgrow4 hx3 ha3 ho3)
  rw [rounds_succ]
  go_wp2
  go_ret
  exact ⟨_, rfl, by rw [HE.out]; simpa using hown4, hB4⟩

theorem put_any (r : Int) (v : Value) (n : Nat) (xs : List Value) (base : Nat) (w : World) (hl : Lay w) (hbs : base ≤ w.heap.size) (hown : w.ownsRow base 5 1 v n xs) (hn : n ≤ 1000000) (hr : isC r = true) :
    Calls Tryd.prog 17 #[v, .int .i32 r] w fun e w' => PutPost base n xs (encC r) w e w' := by
  have hb := isC_bounds hr
  by_cases h1 : r < 128
  · exact put_1 r v n xs base w hl hbs hown hn (by omega) h1
  · by_cases h2 : r < 2048
    · exact put_2 r v n xs base w hl hbs hown hn (by omega) h2
    · by_cases h3 : r < 65536
      · exact put_3 r v n xs base w hl hbs hown hn (by omega) h3
      · exact put_4 r v n xs base w hl hbs hown hn (by omega) (by omega)
end Go.Proofs.YtomlmpcjbdkobaaDoor.U
