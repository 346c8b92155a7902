/- Contracts of the library's Replacer of two bytes by 32: buildOnce, Once. -/
import Derived.Test.YtihijgghcecpmaaGreatDoorRp
import Derived.Defers
import Derived.Laws.Pointers
import Derived.Laws.LoneSync
import Derived.RegionTactic
import Derived.RegionCalls
namespace Go.Proofs.YtihijgghcecpmaaGreatDoor.U
open Go.RowKit Go.Shelf

theorem BoxR.set3 {g : Nat} {d s : Int} {rv ov : Value} {w : World} (h : BoxR g d s rv ov w) (x : Value) : BoxR g d s x ov (w.setCell ⟨g, 3, none⟩ x) := by
  unfold BoxR at h ⊢
  simp [World.setCell, Array.getElem?_modify, h]
theorem BoxR.set4 {g : Nat} {d s : Int} {rv ov : Value} {w : World} (h : BoxR g d s rv ov w) (x : Value) : BoxR g d s rv x (w.setCell ⟨g, 4, none⟩ x) := by
  unfold BoxR at h ⊢
  simp [World.setCell, Array.getElem?_modify, h]
theorem BoxR.set0 {g : Nat} {d s : Int} {rv ov : Value} {w : World} (h : BoxR g d s rv ov w) (x : Int) : BoxR g x s rv ov (w.setCell ⟨g, 0, none⟩ (.int .u32 x)) := by
  unfold BoxR at h ⊢
  simp [World.setCell, Array.getElem?_modify, h]
theorem BoxR.set1 {g : Nat} {d s : Int} {rv ov : Value} {w : World} (h : BoxR g d s rv ov w) (x : Int) : BoxR g d x rv ov (w.setCell ⟨g, 1, none⟩ (.int .i32 x)) := by
  unfold BoxR at h ⊢
  simp [World.setCell, Array.getElem?_modify, h]

/-- What the building leaves: the Replacer's block g alone has been written. -/
def Built (g : Nat) (d s : Int) (w w' : World) : Prop :=
  ∃ t, BoxR g d s (.iface 182 (.pointer (some ⟨t, 0, none⟩))) (.slice none 0 0) w' ∧ TabAt t tabF 256 w' ∧ w.heap.size ≤ t ∧ w.grownBy w' (some g)

set_option maxHeartbeats 1000000 in
theorem buildOnce_any (g a cap : Nat) (d s : Int) (rv : Value) (w : World) (h : BoxR g d s rv (.slice (some ⟨a, 0, none⟩) 4 cap) w) (hf : FourS a w) :
    Calls Tryz.prog 107 #[.pointer (some ⟨g, 0, none⟩)] w fun e w' => e = .returned (.tuple #[]) ∧ Built g d s w w' := by
  have HB := Lib.hid (build_any g a cap d s rv w h hf)
  have H := Lib.hid h
  clear h hf
  go_enter Tryz.func107, Tryz.ntmps107
  go_wp2_with fail
  refine HB.out.mono ?_
  rintro e w2 ⟨t, rfl, ht, hT, hb⟩
  have H2 := Lib.hid (H.out.below hb)
  have HT := Lib.hid hT
  have HBB := Lib.hid hb
  have HTL := Lib.hid ht
  have H3 := Lib.hid ((H2.out.set3 (.iface 182 (.pointer (some ⟨t, 0, none⟩)))).set4 (.slice none 0 0))
  clear hT hb ht
  obtain ⟨⟨c0, c1, c3, c4⟩, f0, f1, f3, f4⟩ := H2.out.at
  go_wp2
  go_end0
  refine ⟨rfl, t, H3.out, ?_, HTL.out, grow_trans (grow_trans (grow_below HBB.out _) (grow_set _ _ _ _)) (grow_set _ _ _ _)⟩
  obtain ⟨C, h1, h2⟩ := HT.out
  have hg := H.out.lt
  have htl := HTL.out
  exact ⟨C, (Below.heap_setCell _ ⟨g, 4, none⟩ _ t (by simp; omega)).trans ((Below.heap_setCell _ ⟨g, 3, none⟩ _ t (by simp; omega)).trans h1), h2⟩

theorem disable (w : World) : (callFunc 141 #[]).run Tryz.prog w = .ok (.value (.tuple #[])) w := run_call_mark0 Tryz.func141 (by kernel_rfl) (by kernel_rfl) (by kernel_rfl) .disable (by kernel_rfl) w
theorem enable (w : World) : (callFunc 143 #[]).run Tryz.prog w = .ok (.value (.tuple #[])) w := run_call_mark0 Tryz.func143 (by kernel_rfl) (by kernel_rfl) (by kernel_rfl) .enable (by kernel_rfl) w
theorem acquire (a : Addr) (w : World) : (callFunc 144 #[.pointer (some a)]).run Tryz.prog w = .ok (.value (.tuple #[])) w := run_call_marked Tryz.func144 (by kernel_rfl) (by kernel_rfl) (by kernel_rfl) .acquire (by kernel_rfl) a w
theorem releaseMerge (a : Addr) (w : World) : (callFunc 146 #[.pointer (some a)]).run Tryz.prog w = .ok (.value (.tuple #[])) w := run_call_marked Tryz.func146 (by kernel_rfl) (by kernel_rfl) (by kernel_rfl) .releaseMerge (by kernel_rfl) a w

/-- '(*sync/atomic.Bool).Store(true)', as a deferred call: the cell holds 1. -/
theorem store_deferred (a : Addr) (x : Value) (u : FrameMode) (w : World) (hc : w.cell? a = some x) (hz : w.frozen? a = false) :
    CallsD Tryz.prog 128 #[.pointer (some a), .bool true] u w fun e u' w' => u' = u ∧ (e = .returned (.tuple #[]) ∧ w' = w.drew.setCell a (.int .u32 1)) := by
  have hc' : w.drew.cell? a = some x := by go_simp
  have hz' : w.drew.frozen? a = false := by go_simp
  have hst := run_call_store (P := Tryz.prog) Tryz.func135 (by kernel_rfl) (by kernel_rfl) (by kernel_rfl) (by kernel_rfl) (k := .u32) (y := 1) hc' hz'
  go_enter_d Tryz.func128, Tryz.ntmps128
  go_wp2
  go_region_calls
  all_goals (go_end0; exact ⟨rfl, rfl⟩)

set_option maxRecDepth 20000 in
/-- '(*sync.Mutex).Unlock', as a deferred call, the lock held and nobody waiting. -/
theorem unlock_deferred (a : Addr) (u : FrameMode) (w : World) (hc : w.cell? a = some (.int .i32 1)) (hz : w.frozen? a = false) :
    CallsD Tryz.prog 127 #[.pointer (some a)] u w fun e u' w' => u' = u ∧ (e = .returned (.tuple #[]) ∧ w' = w.setCell a (.int .i32 0)) := by
  have hd := disable
  have he := enable
  have hr := releaseMerge
  have hadd := run_call_add (P := Tryz.prog) Tryz.func147 (by kernel_rfl) (by kernel_rfl) (by kernel_rfl) .i32 (by kernel_rfl) (y := -1) (s := 0) hc hz (by simp [go_sem]; rfl)
  have hcv := run_convert_to_unsafe (P := Tryz.prog) (src := 205) (dst := 160) Tryz.underlying205 Tryz.underlying160 (by kernel_rfl) hc
  go_enter_d Tryz.func127, Tryz.ntmps127
  go_wp2
  go_end0
  go_wp2
  go_end0
  exact ⟨rfl, rfl⟩

set_option maxRecDepth 20000 in
/-- '(*sync.Mutex).Lock', the lock free. -/
theorem lock_free (a : Addr) (w : World) (hc : w.cell? a = some (.int .i32 0)) (hz : w.frozen? a = false) :
    Calls Tryz.prog 126 #[.pointer (some a)] w fun e w' => e = .returned (.tuple #[]) ∧ w' = w.setCell a (.int .i32 1) := by
  have hd := disable
  have he := enable
  have ha := acquire
  have hcas := run_call_cas_hit (P := Tryz.prog) Tryz.func142 (by kernel_rfl) (by kernel_rfl) (by kernel_rfl) .i32 (by kernel_rfl) (y := 1) hc hz
  have hc' : (w.setCell a (.int .i32 1)).cell? a = some (.int .i32 1) := World.cell?_setCell_same w a _ hc
  have hcv := run_convert_to_unsafe (P := Tryz.prog) (src := 205) (dst := 160) Tryz.underlying205 Tryz.underlying160 (by kernel_rfl) hc'
  go_enter Tryz.func126, Tryz.ntmps126
  go_wp2
  first | go_end0 | (simp only [Exit.inBlock, Exit.then]; refine bodyPost_ret (results_none rfl _ _ _) rfl ?_) | refine bodyPost_ret (results_none rfl _ _ _) rfl ?_
  go_wp2
  go_end0
  exact ⟨rfl, rfl⟩

theorem load_zero (a : Addr) (w : World) (h0 : w.cell? a = some (.int .u32 0)) :
    Calls Tryz.prog 118 #[.pointer (some a)] w fun e w' => e = .returned (.bool false) ∧ w = w' := by
  have hl := run_call_load (P := Tryz.prog) Tryz.func125 (by kernel_rfl) (by kernel_rfl) (by kernel_rfl) .u32 (by kernel_rfl) h0
  go_enter Tryz.func118, Tryz.ntmps118
  go_wp2
  go_ret
  exact ⟨rfl, rfl⟩

set_option maxRecDepth 100000 in
set_option maxHeartbeats 1600000 in
theorem slow_any (g a cap : Nat) (w : World) (h : BoxR g 0 0 .nilIface (.slice (some ⟨a, 0, none⟩) 4 cap) w) (hf : FourS a w) (ha : a ≠ g) :
    Calls Tryz.prog 119 #[.pointer (some ⟨g, 0, none⟩), .func (.func 107) #[.pointer (some ⟨g, 0, none⟩)] #[]] w fun e w' => e = .returned (.tuple #[]) ∧ Built g 1 0 w w' := by
  have H1 := Lib.hid (h.set1 1)
  have HF : Hid (FourS a (w.setCell ⟨g, 1, none⟩ (.int .i32 1))) := Lib.hid ⟨(World.cell?_setCell_other _ ⟨g, 1, none⟩ _ _ (by simp)).trans hf.1, (World.cell?_setCell_other _ ⟨g, 1, none⟩ _ _ (by simp)).trans hf.2.1, (World.cell?_setCell_other _ ⟨g, 1, none⟩ _ _ (by simp)).trans hf.2.2.1, (World.cell?_setCell_other _ ⟨g, 1, none⟩ _ _ (by simp)).trans hf.2.2.2⟩
  have HO := Lib.hid (buildOnce_any g a cap 0 1 .nilIface _ H1.out HF.out)
  obtain ⟨⟨c0, c1, c3, c4⟩, f0, f1, f3, f4⟩ := h.at
  obtain ⟨⟨d0, d1, d3, d4⟩, g0, g1, g3, g4⟩ := H1.out.at
  have HL := Lib.hid (load_zero ⟨g, 0, none⟩ _ d0)
  clear h hf
  go_enter_defers Tryz.func119, Tryz.ntmps119
  go_wp2_with fail
  refine (lock_free ⟨g, 1, none⟩ _ c1 f1).mono ?_
  rintro e w' ⟨rfl, rfl⟩
  go_wp2_with fail
  refine HL.out.mono ?_
  rintro e w2 ⟨rfl, rfl⟩
  go_wp2_with fail
  refine HO.out.mono ?_
  rintro e w2 ⟨rfl, hbt⟩
  go_wp2
  obtain ⟨t, hbx, hT, htl, hg⟩ := hbt
  obtain ⟨⟨e0, e1, e3, e4⟩, z0, z1, z3, z4⟩ := hbx.at
  have hgl := hbx.lt
  have hy1 : (w2.drew.setCell ⟨g, 0, none⟩ (.int .u32 1)).cell? ⟨g, 1, none⟩ = some (.int .i32 1) := ((World.cell?_setCell_other _ ⟨g, 0, none⟩ ⟨g, 1, none⟩ _ (by simp)).trans (by rw [World.cell?_drew]; exact e1))
  refine leaves_cons (f := 128) (args := #[.pointer (some ⟨g, 0, none⟩), .bool true]) (by simp) (by simp [go_sem]) ?_
  refine (store_deferred ⟨g, 0, none⟩ (.int .u32 0) .returning _ e0 z0).mono ?_
  rintro e u' w'' ⟨rfl, rfl, rfl⟩
  refine leaves_cons (f := 127) (args := #[.pointer (some ⟨g, 1, none⟩)]) (by simp [settle]) (by simp [go_sem]) ?_
  refine (unlock_deferred ⟨g, 1, none⟩ _ _ hy1 (by simp [z1])).mono ?_
  rintro e u' w'' ⟨rfl, rfl, rfl⟩
  have hfin : Built g 1 0 w ((w2.drew.setCell ⟨g, 0, none⟩ (.int .u32 1)).setCell ⟨g, 1, none⟩ (.int .i32 0)) := by
    have hg0 := H1.out.lt
    simp at hg0 htl
    have hx2 : BoxR g 0 1 _ _ w2.drew := hbx
    refine ⟨t, (hx2.set0 1).set1 0, ?_, htl, grow_trans (grow_trans (grow_trans (grow_set w g 1 (.int .i32 1)) (grow_trans hg (grow_drewN w2 1 _))) (grow_set _ _ _ _)) (grow_set _ _ _ _)⟩
    obtain ⟨C, h1, h2⟩ := hT
    exact ⟨C, (Below.heap_setCell _ ⟨g, 1, none⟩ _ t (by simp; omega)).trans ((Below.heap_setCell _ ⟨g, 0, none⟩ _ t (by simp; omega)).trans h1), h2⟩
  simp [Leaves, settle, results, Tryz.results119]
  exact hfin

set_option maxRecDepth 100000 in
set_option maxHeartbeats 1600000 in
theorem once_any (g a cap : Nat) (w : World) (h : BoxR g 0 0 .nilIface (.slice (some ⟨a, 0, none⟩) 4 cap) w) (hf : FourS a w) (ha : a ≠ g) :
    Calls Tryz.prog 106 #[.pointer (some ⟨g, 0, none⟩), .func (.func 107) #[.pointer (some ⟨g, 0, none⟩)] #[]] w fun e w' => e = .returned (.tuple #[]) ∧ Built g 1 0 w w' := by
  have HS := Lib.hid (slow_any g a cap w h hf ha)
  have HL := Lib.hid (load_zero ⟨g, 0, none⟩ w h.at.1.1)
  have hnot : ∀ (x : Bool) (w : World), (Op.unary .not (.bool x)).run Tryz.prog w = .ok (.bool (!x)) w := fun _ _ => rfl
  clear h hf
  go_enter Tryz.func106, Tryz.ntmps106
  go_wp2_with fail
  refine HL.out.mono ?_
  rintro e w2 ⟨rfl, rfl⟩
  go_wp2_with fail
  refine HS.out.mono ?_
  rintro e w2 ⟨rfl, hbt⟩
  go_wp2
  go_end0
  exact ⟨rfl, hbt⟩
end Go.Proofs.YtihijgghcecpmaaGreatDoor.U
