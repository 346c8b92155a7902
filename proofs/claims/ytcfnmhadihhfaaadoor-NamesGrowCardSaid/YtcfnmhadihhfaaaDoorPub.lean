/- The contracts of strconv.ParseUint, for up to eight digits, and of names.number. -/
import Derived.Test.YtcfnmhadihhfaaaDoorPu16
import Derived.Test.YtcfnmhadihhfaaaDoorRef
import Derived.Shelf.Pu.ToError
namespace Go.Proofs.YtcfnmhadihhfaaaDoor.U
open Go.RowKit Go.Shelf

set_option maxHeartbeats 8000000 in
set_option maxRecDepth 100000 in
theorem inner_empty (b : Int) (w : World) :
    Calls Tryd.prog 57 #[.string ⟨#[]⟩, .int .i64 b, .int .i64 32] w fun e w' => e = .returned (.tuple #[.int .u64 0, .iface 91 (.int .i64 2)]) ∧ w' = w := by
  go_enter Tryd.func57, Tryd.ntmps57
  go_wp2
  go_ret2
  exact ⟨rfl, rfl⟩

theorem toErr (fn s : ByteArray) (base bits : Int) (ev : Value) (w : World) (hlim : s.size ≤ 281474976710656) (hv : w.cell? ⟨3, 0, none⟩ = some ev) (hev : ev = .nilIface ∨ ∃ te pe, ev = .iface te pe) :
    Calls Tryd.prog 58 #[.string fn, .string s, .int .i64 base, .int .i64 bits, .iface 91 (.int .i64 2)] w fun e w' => ∃ N, e = .returned (.iface 93 (.pointer (some ⟨N, 0, none⟩))) ∧ w.heap.size ≤ N ∧ w'.heap[N]? = some (.cells #[.string fn, .string s, ev] 98 (0, 0)) ∧ Below w.heap.size w w' :=
  AnyPu.strconv_toError_syntax { S.laysPu14 with } fn s base bits ev w hlim hv hev

/-- What the public ParseUint leaves. -/
def PubPost (x : Option Int) (w : World) (e : Ending) (w' : World) : Prop :=
  Below w.heap.size w w' ∧ ((∃ n, x = some n ∧ e = .returned (.tuple #[.int .u64 n, .nilIface])) ∨ (x = none ∧ ∃ N, e = .returned (.tuple #[.int .u64 0, .iface 93 (.pointer (some ⟨N, 0, none⟩))])))

set_option maxHeartbeats 8000000 in
theorem pub_10 (t : ByteArray) (h8 : t.size ≤ 8) (w : World) (hl : LayS w) :
    Calls Tryd.prog 53 #[.string t, .int .i64 10, .int .i64 32] w fun e w' => PubPost (numL 10 (bts t)) w e w' := by
  have hlen := bts_len t
  have HL := Lib.hid hl
  by_cases h0 : t.size = 0
  · have hs : t = ⟨#[]⟩ := bts_inj (by rw [bts_mk]; exact List.eq_nil_of_length_eq_zero (hlen.trans h0))
    have HN : Hid (numL 10 (bts t) = none) := Lib.hid (by unfold numL; rw [if_neg (by omega)])
    subst hs
    obtain ⟨te, pe, hsy⟩ := hl.syn
    have HSY := Lib.hid hsy
    clear hsy hl
    go_enter Tryd.func53, Tryd.ntmps53
    go_wp2_with fail
    refine (inner_empty 10 _).mono ?_
    rintro e w1 ⟨rfl, rfl⟩
    go_wp2_with fail
    refine (toErr ⟨#[80, 97, 114, 115, 101, 85, 105, 110, 116]⟩ ⟨#[]⟩ 10 32 _ _ (by show 0 ≤ _; omega) HSY.out (.inr ⟨te, pe, rfl⟩)).mono ?_
    rintro e w2 ⟨N, rfl, h1, h2, h3⟩
    go_wp2
    go_ret2
    exact ⟨h3, .inr ⟨HN.out, N, rfl⟩⟩
  · have hN : numL 10 (bts t) = numA 10 0 (bts t) := by unfold numL; rw [if_pos (by omega)]
    have HBW := Lib.hid (bytes_below w t)
    have hl1 : LayS (Lib.bytesWorld w 5 t) := hl.below (bytes_below w t) hl.size
    obtain ⟨te, pe, hsy⟩ := hl1.syn
    have HSY := Lib.hid hsy
    have HI := Lib.hid (inner_10 t h0 h8 w)
    rw [hN]
    clear hsy hl hl1 hN
    generalize Lib.bytesWorld w 5 t = w1 at HBW HSY HI
    cases hv : numA 10 0 (bts t) with
    | none =>
      rw [hv] at HI
      go_enter Tryd.func53, Tryd.ntmps53
      go_wp2_with fail
      refine HI.out.mono ?_
      unfold uintV
      rintro e w1 ⟨rfl, rfl⟩
      go_wp2_with fail
      refine (toErr ⟨#[80, 97, 114, 115, 101, 85, 105, 110, 116]⟩ t 10 32 _ _ (by omega) HSY.out (.inr ⟨te, pe, rfl⟩)).mono ?_
      rintro e w2 ⟨N, rfl, h1, h2, h3⟩
      go_wp2
      go_ret2
      exact ⟨HBW.out.trans (h3.mono HBW.out.size), .inr ⟨rfl, N, rfl⟩⟩
    | some n =>
      rw [hv] at HI
      go_enter Tryd.func53, Tryd.ntmps53
      go_wp2_with fail
      refine HI.out.mono ?_
      unfold uintV
      rintro e w1 ⟨rfl, rfl⟩
      go_wp2
      go_ret2
      exact ⟨HBW.out, .inl ⟨n, rfl, rfl⟩⟩

set_option maxHeartbeats 8000000 in
theorem pub_16 (t : ByteArray) (h8 : t.size ≤ 8) (w : World) (hl : LayS w) :
    Calls Tryd.prog 53 #[.string t, .int .i64 16, .int .i64 32] w fun e w' => PubPost (numL 16 (bts t)) w e w' := by
  have hlen := bts_len t
  have HL := Lib.hid hl
  by_cases h0 : t.size = 0
  · have hs : t = ⟨#[]⟩ := bts_inj (by rw [bts_mk]; exact List.eq_nil_of_length_eq_zero (hlen.trans h0))
    have HN : Hid (numL 16 (bts t) = none) := Lib.hid (by unfold numL; rw [if_neg (by omega)])
    subst hs
    obtain ⟨te, pe, hsy⟩ := hl.syn
    have HSY := Lib.hid hsy
    clear hsy hl
    go_enter Tryd.func53, Tryd.ntmps53
    go_wp2_with fail
    refine (inner_empty 16 _).mono ?_
    rintro e w1 ⟨rfl, rfl⟩
    go_wp2_with fail
    refine (toErr ⟨#[80, 97, 114, 115, 101, 85, 105, 110, 116]⟩ ⟨#[]⟩ 16 32 _ _ (by show 0 ≤ _; omega) HSY.out (.inr ⟨te, pe, rfl⟩)).mono ?_
    rintro e w2 ⟨N, rfl, h1, h2, h3⟩
    go_wp2
    go_ret2
    exact ⟨h3, .inr ⟨HN.out, N, rfl⟩⟩
  · have hN : numL 16 (bts t) = numA 16 0 (bts t) := by unfold numL; rw [if_pos (by omega)]
    have HBW := Lib.hid (bytes_below w t)
    have hl1 : LayS (Lib.bytesWorld w 5 t) := hl.below (bytes_below w t) hl.size
    obtain ⟨te, pe, hsy⟩ := hl1.syn
    have HSY := Lib.hid hsy
    have HI := Lib.hid (inner_16 t h0 h8 w)
    rw [hN]
    clear hsy hl hl1 hN
    generalize Lib.bytesWorld w 5 t = w1 at HBW HSY HI
    cases hv : numA 16 0 (bts t) with
    | none =>
      rw [hv] at HI
      go_enter Tryd.func53, Tryd.ntmps53
      go_wp2_with fail
      refine HI.out.mono ?_
      unfold uintV
      rintro e w1 ⟨rfl, rfl⟩
      go_wp2_with fail
      refine (toErr ⟨#[80, 97, 114, 115, 101, 85, 105, 110, 116]⟩ t 16 32 _ _ (by omega) HSY.out (.inr ⟨te, pe, rfl⟩)).mono ?_
      rintro e w2 ⟨N, rfl, h1, h2, h3⟩
      go_wp2
      go_ret2
      exact ⟨HBW.out.trans (h3.mono HBW.out.size), .inr ⟨rfl, N, rfl⟩⟩
    | some n =>
      rw [hv] at HI
      go_enter Tryd.func53, Tryd.ntmps53
      go_wp2_with fail
      refine HI.out.mono ?_
      unfold uintV
      rintro e w1 ⟨rfl, rfl⟩
      go_wp2
      go_ret2
      exact ⟨HBW.out, .inl ⟨n, rfl, rfl⟩⟩

set_option maxHeartbeats 4000000 in
theorem number_10 (s : ByteArray) (w : World) (hl : LayS w) :
    Calls Tryd.prog 47 #[.string s, .int .i64 10] w fun e w' => e = .returned (.int .i32 (wrap32 ((numL 10 (bts s)).getD 0))) ∧ Below w.heap.size w w' := by
  by_cases h8 : 8 < s.size
  · have HN : Hid (numL 10 (bts s) = none) := Lib.hid (by unfold numL; rw [if_neg (by rw [bts_len]; omega)])
    clear hl
    go_enter Tryd.func47, Tryd.ntmps47
    go_wp2
    go_ret
    exact ⟨by rw [HN.out, Option.getD_none, wrap32_lit (n := 0) (by omega)]; rfl, Below.refl _ _⟩
  · go_enter Tryd.func47, Tryd.ntmps47
    go_wp2_with fail
    refine (pub_10 s (by omega) _ hl).mono ?_
    rintro e w1 ⟨hb, ⟨n, hn, rfl⟩ | ⟨hn, N, rfl⟩⟩
    · have HN := Lib.hid hn
      have hbd := numL_bound (by omega) hn
      clear hl hn
      go_wp2
      go_ret
      refine ⟨?_, hb⟩
      rw [HN.out]
      rfl
    · have HN := Lib.hid hn
      clear hl hn
      go_wp2
      go_ret
      exact ⟨by rw [HN.out, Option.getD_none, wrap32_lit (n := 0) (by omega)]; rfl, hb⟩

set_option maxHeartbeats 4000000 in
theorem number_16 (s : ByteArray) (w : World) (hl : LayS w) :
    Calls Tryd.prog 47 #[.string s, .int .i64 16] w fun e w' => e = .returned (.int .i32 (wrap32 ((numL 16 (bts s)).getD 0))) ∧ Below w.heap.size w w' := by
  by_cases h8 : 8 < s.size
  · have HN : Hid (numL 16 (bts s) = none) := Lib.hid (by unfold numL; rw [if_neg (by rw [bts_len]; omega)])
    clear hl
    go_enter Tryd.func47, Tryd.ntmps47
    go_wp2
    go_ret
    exact ⟨by rw [HN.out, Option.getD_none, wrap32_lit (n := 0) (by omega)]; rfl, Below.refl _ _⟩
  · go_enter Tryd.func47, Tryd.ntmps47
    go_wp2_with fail
    refine (pub_16 s (by omega) _ hl).mono ?_
    rintro e w1 ⟨hb, ⟨n, hn, rfl⟩ | ⟨hn, N, rfl⟩⟩
    · have HN := Lib.hid hn
      have hbd := numL_bound (by omega) hn
      clear hl hn
      go_wp2
      go_ret
      refine ⟨?_, hb⟩
      rw [HN.out]
      rfl
    · have HN := Lib.hid hn
      clear hl hn
      go_wp2
      go_ret
      exact ⟨by rw [HN.out, Option.getD_none, wrap32_lit (n := 0) (by omega)]; rfl, hb⟩
end Go.Proofs.YtcfnmhadihhfaaaDoor.U
