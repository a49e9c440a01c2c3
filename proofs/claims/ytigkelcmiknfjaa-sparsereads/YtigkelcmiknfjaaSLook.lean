/- Package sparse: New, Size, Blocks, Has, after, tooBig. -/
import Derived.Test.YtigkelcmiknfjaaSFile
namespace Go.Proofs.Ytigkelcmiknfjaa
open Go Go.RowKit Go.Maps

theorem lawInt : Keyed Try.prog 3 := int_keyed Try.underlying3
theorem zeroPtr (w : World) : (zeroValue 57).run Try.prog w = .ok (.pointer none) w := by kernel_rfl
theorem ky_wf {k : Nat} (h : k ≤ 9000000000) : (ky k).wf = true := WalkArith.wf_i64 (by omega)

section
variable {w : World} {fb sz : Nat} {mv : Value} {D : DataW Nat} {C : Nat → UInt8} {h : Nat → Bool} {F : Nat → Prop}
theorem FileM.look_yes (f : FileM w fb mv D sz C h) {k : Nat} (hk : h k = true) : (Instr.lookup 49 mv (.int .i64 k) false).run Try.prog w = .ok (.pointer (some ⟨gOf D k, 0, none⟩)) w := by
  have hl := f.is.small k hk
  obtain ⟨h1, h2⟩ := f.is.held k hk
  rcases f.map with ⟨_, rfl⟩ | ⟨mb, rfl, hm⟩
  · simp [Maps.has] at h1
  · obtain ⟨v, ps, hrun, hv⟩ := hm.lookup lawInt Try.underlying49 (zeroPtr w) ptrElem_nil (keyOf_int_mk Try.underlying3 (ky_wf (k := k) (by omega)))
    rw [h2] at hv
    rw [ptrElem_of_held hv] at hrun
    exact hrun
theorem FileM.look_no (f : FileM w fb mv D sz C h) {x : Int} (hw : (Lit.int .i64 x).wf = true) (hk : ∀ k : Nat, x = k → h k = false) : (Instr.lookup 49 mv (.int .i64 x) false).run Try.prog w = .ok (.pointer none) w := by
  rcases f.map with ⟨rfl, _⟩ | ⟨mb, rfl, hm⟩
  · have := Maps.look_nil (w := w) false lawInt Try.underlying49 (zeroPtr w) (keyOf_int_mk Try.underlying3 hw)
    simpa using this
  · obtain ⟨v, ps, hrun, hv⟩ := hm.lookup lawInt Try.underlying49 (zeroPtr w) ptrElem_nil (keyOf_int_mk Try.underlying3 hw)
    rw [f.is.none hk] at hv
    rw [ptrElem_of_nil hv] at hrun
    exact hrun
theorem FileM.len (f : FileM w fb mv D sz C h) (ty : TypeId) : (Builtin.len_ #[49] ty #[mv]).run Try.prog w = .ok (.int .i64 (cntF 1024 h : Nat)) w := by
  rw [← f.is.count]
  rcases f.map with ⟨rfl, rfl⟩ | ⟨mb, rfl, hm⟩
  · exact Maps.len_nil Try.underlying49 ty
  · exact hm.len Try.underlying49 ty
end

/-- A file that there is, or none. -/
def Hs (w : World) (v : Value) (sz : Nat) (C : Nat → UInt8) (h : Nat → Bool) : Prop :=
  (v = .pointer none ∧ sz = 0 ∧ ∀ k, h k = false) ∨ ∃ fb F, v = .pointer (some ⟨fb, 0, none⟩) ∧ FileAt w fb F sz C h
theorem Hs.on {w w' : World} {v : Value} {sz : Nat} {C : Nat → UInt8} {h : Nat → Bool} (f : Hs w v sz C h) (hb : Below w.heap.size w w') : Hs w' v sz C h := by
  rcases f with h0 | ⟨fb, F, e, f⟩
  · exact .inl h0
  · exact .inr ⟨fb, F, e, f.on hb⟩

theorem new_any (w : World) : Calls Try.prog 7 #[] w fun e w' => e = .returned (.pointer (some ⟨w.heap.size, 0, none⟩)) ∧ FileAt w' w.heap.size (fun x => x = w.heap.size) 0 (fun _ => 0) (fun _ => false) ∧ Below w.heap.size w w' := by
  have HF : Hid (FileAt (w.alloc (.cells #[.map none, .int .i64 0] 51)) w.heap.size (fun x => x = w.heap.size) 0 (fun _ => 0) (fun _ => false)) :=
    ⟨_, _, fileM_new w, by funext x; simp [foot]⟩
  have HB : Hid (Below w.heap.size w (w.alloc (.cells #[.map none, .int .i64 0] 51))) := on_alloc w _
  go_enter Try.func7, Try.ntmps7
  go_wp2
  go_ret
  exact ⟨rfl, HF.out, HB.out⟩
theorem size_any (v : Value) (sz : Nat) (C : Nat → UInt8) (h : Nat → Bool) (w : World) (f : Hs w v sz C h) : Calls Try.prog 19 #[v] w fun e w' => e = .returned (.int .i64 sz) ∧ w' = w := by
  rcases f with ⟨rfl, rfl, _⟩ | ⟨fb, F, rfl, mv, D, f, _⟩
  · go_enter Try.func19, Try.ntmps19
    go_wp2
    go_ret
    exact ⟨rfl, rfl⟩
  · have x1 := f.box.cell 1 rfl
    clear f
    go_enter Try.func19, Try.ntmps19
    go_wp2
    go_ret
    exact ⟨rfl, rfl⟩
theorem blocks_of (v : Value) (sz : Nat) (C : Nat → UInt8) (h : Nat → Bool) (w : World) (f : Hs w v sz C h) : Calls Try.prog 18 #[v] w fun e w' => e = .returned (.int .i64 (cntF 1024 h : Nat)) ∧ w' = w := by
  rcases f with ⟨rfl, rfl, h0⟩ | ⟨fb, F, rfl, mv, D, f, _⟩
  · rw [cntF_none h0]
    go_enter Try.func18, Try.ntmps18
    go_wp2
    go_ret
    exact ⟨rfl, rfl⟩
  · have x0 := f.box.cell 0 rfl
    have hlen := f.len
    generalize cntF 1024 h = n at *
    clear f
    go_enter Try.func18, Try.ntmps18
    go_wp2
    go_ret
    exact ⟨rfl, rfl⟩
/-- Whether a file has a block of that number, whatever number. -/
def hasZ (h : Nat → Bool) (x : Int) : Bool := decide (0 ≤ x) && h x.toNat
theorem hasZ_nat (h : Nat → Bool) (k : Nat) : hasZ h k = h k := by simp [hasZ]
theorem has_of (v : Value) (sz : Nat) (C : Nat → UInt8) (h : Nat → Bool) (x : Int) (w : World) (hw : (Lit.int .i64 x).wf = true) (f : Hs w v sz C h) : Calls Try.prog 20 #[v, .int .i64 x] w fun e w' => e = .returned (.bool (hasZ h x)) ∧ w' = w := by
  rcases f with ⟨rfl, rfl, h0⟩ | ⟨fb, F, rfl, mv, D, f, _⟩
  · have e : hasZ h x = false := by simp [hasZ, h0]
    rw [e]
    go_enter Try.func20, Try.ntmps20
    go_wp2
    go_ret
    exact ⟨rfl, rfl⟩
  · have x0 := f.box.cell 0 rfl
    cases hz : hasZ h x with
    | true =>
      have hz' : 0 ≤ x ∧ h x.toNat = true := by simpa [hasZ] using hz
      have hlk := f.look_yes hz'.2
      rw [show ((x.toNat : Nat) : Int) = x by omega] at hlk
      clear f
      go_enter Try.func20, Try.ntmps20
      go_wp2
      go_ret
      exact ⟨rfl, rfl⟩
    | false =>
      have hlk := f.look_no hw (fun k e => by subst e; rw [hasZ_nat] at hz; exact hz)
      clear f
      go_enter Try.func20, Try.ntmps20
      go_wp2
      go_ret
      exact ⟨rfl, rfl⟩
theorem after_any (i : Nat) (w : World) (hi : i ≤ 9000000000) : Calls Try.prog 24 #[.int .i64 i] w fun e w' => e = .returned (.int .i64 ((i / 64 + 1) * 64 : Nat)) ∧ w' = w := by
  have hz : (((i / 64 + 1) * 64 : Nat) : Int) = ((i : Int) / 64 + 1) * 64 := by omega
  rw [hz]
  go_enter Try.func24, Try.ntmps24
  go_wp2
  go_ret
  exact ⟨rfl, rfl⟩
theorem tooBig_any (x n : Int) (w : World) (hn : 0 ≤ n ∧ n ≤ 9223372036854775807) : Calls Try.prog 25 #[.int .i64 x, .int .i64 n] w fun e w' => e = .returned (.bool (decide (65536 - n < x))) ∧ w' = w := by
  go_enter Try.func25, Try.ntmps25
  go_wp2
  go_ret
  exact ⟨rfl, rfl⟩

end Go.Proofs.Ytigkelcmiknfjaa
