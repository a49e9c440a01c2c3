/- Package socks: leave. -/
import Derived.Test.YtfhkdndgiofidaaXDump
namespace Go.Proofs.Ytfhkdndgiofidaa.X
open Go Go.RowKit Go.Maps Go.Sort Go.Proofs.Ytfhkdndgiofidaa.K

section
variable {P : Nat → Prop} {w : World} {sb mb n next k : Nat} {g : Nat → Nat} {T : Tb} {x d : Sk}
/-- A socket's list. -/
theorem StG.row (h : StG P w sb mb n next g T) (hk : T k = some x) : ∃ qb wv, Blk w (g k) 79 (skC x qb wv) ∧ w.ownsRow 0 3 1 wv x.waits.length (natsV x.waits) ∧ ∀ b, wv.ownBlock = some b → b ≠ g k ∧ P b := by
  obtain ⟨y, h1, rfl, h3⟩ := h
  have hs := h1.sk k x hk
  have eg := h3 k (hasT_of hk)
  rw [eg] at hs
  refine ⟨_, _, hs.box, hs.row, fun b e => ⟨fun e2 => ?_, .inr (.inr ⟨k, hasT_of hk, .inr (.inr (.inr e))⟩)⟩⟩
  subst e2
  exact int_sk (hs.vt e) (typ_blk hs.box)
theorem idx_at {l A B : List Nat} {v : Nat} (e : l = A ++ v :: B) (hA : v ∉ A) : Lib.idxOf ((zs l).take l.length) (v : Int) = (A.length : Int) := by
  have h0 : (zs l).take l.length = zs l := List.take_of_length_le (by simp)
  rw [h0]
  have := Lib.idxFrom_hit (v : Int) (zs l) A.length 0 (by rw [e]; simp) (by rw [e]; simp [List.getD]) (fun j hj => by
    rw [e]
    simp only [zs, List.map_append, List.getD, List.getElem?_append_left (show j < (A.map fun (k : Nat) => (k : Int)).length by simpa using hj)]
    simp only [List.getElem?_map, List.getElem?_eq_getElem hj, Option.map_some, Option.getD_some]
    intro e2
    have : A[j] = v := by omega
    exact hA (this ▸ List.getElem_mem hj))
  simpa [Lib.idxOf] using this
set_option maxRecDepth 100000 in
set_option maxHeartbeats 2000000 in
theorem leave_out (h : StG P w sb mb n next g T) (hk : T k = some x) (hd : x.door ≤ 5000) (ho : T x.door = none) : Calls Try.prog 69 #[ptr sb, .int .i64 (k : Int)] w (Left P w sb mb n next g (setT T k (some { x with door := 0 })) (.tuple #[])) := by
  have x0 := h.box.cell 0 rfl
  have HE : Hid (∀ q, Below w.heap.size w (w.drewN q)) := fun q => on_drewN (Below.refl _ _) q
  have hl1 := h.look_yes hk
  have hl2 := fun q => (h.on (HE.out q)).look_no (z := (x.door : Int)) (ky_wf (k := x.door) (by omega)) (fun j e => by rw [← ho]; congr 1; omega)
  obtain ⟨qb, wv, hB, _, _⟩ := h.row hk
  have y5 := hB.cell 5 rfl
  have f5 := hB.free 5
  have HP : Hid (∀ q, Left P w sb mb n next g (setT T k (some { x with door := 0 })) (.tuple #[]) (.returned (.tuple #[])) ((w.drewN q).setCell ⟨g k, 5, none⟩ (.int .i64 0))) := fun q => by
    obtain ⟨P', h1, h2⟩ := (h.on (HE.out q)).set (x' := { x with door := 0 }) hk (hB.on (HE.out q)) (but_set _ _ 5 (.int .i64 0)) ((hB.on (HE.out q)).set 5 _) rfl rfl
    exact ⟨rfl, P', h1, (Moves.on (HE.out q)).trans h2⟩
  generalize Left P w sb mb n next g (setT T k (some { x with door := 0 })) (.tuple #[]) = Post at *
  clear h hk hB ho
  go_enter Try.func69, Try.ntmps69
  go_wp2
  go_quiet (fail)
  go_wp2
  go_end0
  exact HP.out _
set_option maxRecDepth 100000 in
set_option maxHeartbeats 2000000 in
theorem leave_in (h : StG P w sb mb n next g T) (hk : T k = some x) {dk : Nat} (hdk : x.door = dk) (ho : T dk = some d) (hne : dk ≠ k) {A B : List Nat} (hw : d.waits = A ++ k :: B) (hA : k ∉ A) (hlen : d.waits.length ≤ 1000) :
    Calls Try.prog 69 #[ptr sb, .int .i64 (k : Int)] w (Left P w sb mb n next g (setT (setT T dk (some { d with waits := A ++ B })) k (some { x with door := 0 })) (.tuple #[])) := by
  have x0 := h.box.cell 0 rfl
  have HE : Hid (∀ q, Below w.heap.size w (w.drewN q)) := fun q => on_drewN (Below.refl _ _) q
  have hl1 := h.look_yes hk
  have hl2 := fun q => (h.on (HE.out q)).look_yes ho
  have hg1 := h.gne ho hk hne
  have hg2 := h.gne hk ho (Ne.symm hne)
  obtain ⟨qb, wv, hB, _, _⟩ := h.row hk
  have y5 := hB.cell 5 rfl
  rw [hdk] at y5
  obtain ⟨q9, wv9, hBd, hrow, hown⟩ := h.row ho
  obtain ⟨vb, vc, e9⟩ : ∃ vb vc, wv9 = .slice (some ⟨vb, 0, none⟩) d.waits.length vc := by
    rcases hrow.2 with ⟨_, e⟩ | ⟨b, cap, cur, e, _⟩
    · rw [hw] at e; simp at e
    · exact ⟨b, cap, e⟩
  subst e9
  obtain ⟨cs, hV, hcl, hnc, hmc, _, htk⟩ := rowS_blk hrow
  have hvg := hown vb rfl
  have z6 := hBd.cell 6 rfl
  obtain ⟨nn, hnn⟩ : ∃ nn, d.waits.length = nn := ⟨_, rfl⟩
  obtain ⟨aa, haa⟩ : ∃ aa, A.length = aa := ⟨_, rfl⟩
  have hAn : aa + 1 ≤ nn := by rw [← hnn, ← haa, hw]; simp
  have hal : aa ≤ 1000 := by omega
  have hcz : ∀ q, ∀ j, j < (zs d.waits).length → (w.drewN q).cell? ⟨vb, 0 + j, none⟩ = some (.int .i64 ((zs d.waits).getD j 0)) := fun q j hj => by
    have hj' : j < d.waits.length := by simpa using hj
    have h7 := (hV.on (HE.out q)).cell j (v := .int .i64 ((zs d.waits).getD j 0)) (by
      have h8 : (natsV d.waits)[j]? = some (.int .i64 ((zs d.waits).getD j 0)) := by simp [hj', List.getD]
      rw [← htk, List.getElem?_take_of_lt (by omega)] at h8
      exact h8)
    rw [Nat.zero_add]
    exact h7
  have HI : Hid (∀ q, Calls Try.prog 86 #[.slice (some ⟨vb, 0, none⟩) nn vc, .int .i64 (k : Int)] (w.drewN q) fun e w' => e = .returned (.int .i64 (aa : Int)) ∧ w' = w.drewN q) := fun q => by
    have := Try.slices_Index_int vb 0 d.waits.length vc (zs d.waits) (k : Int) (w.drewN q) (by simp) (by omega) (hcz q)
    rw [idx_at hw hA, haa, hnn] at this
    exact this
  have HD : Hid (∀ q, Calls Try.prog 87 #[.slice (some ⟨vb, 0, none⟩) nn vc, .int .i64 (aa : Int), .int .i64 ((aa : Int) + 1)] (w.drewN q) fun e w' => e = .returned (.slice (some ⟨vb, 0, none⟩) (nn - 1) vc) ∧ (w'.cell? ⟨g dk, 6, none⟩ = some (.slice (some ⟨vb, 0, none⟩) nn vc) ∧ w'.frozen? ⟨g dk, 6, none⟩ = false ∧ w'.cell? ⟨g k, 5, none⟩ = some (.int .i64 (dk : Int)) ∧ w'.frozen? ⟨g k, 5, none⟩ = false) ∧
      Left P w sb mb n next g (setT (setT T dk (some { d with waits := A ++ B })) k (some { x with door := 0 })) (.tuple #[]) (.returned (.tuple #[])) ((w'.setCell ⟨g dk, 6, none⟩ (.slice (some ⟨vb, 0, none⟩) (nn - 1) vc)).setCell ⟨g k, 5, none⟩ (.int .i64 0))) := fun q => by
    have hVq := hV.on (HE.out q)
    have hc := Try.slices_Delete_int_cells vb 0 d.waits.length vc aa (aa + 1) (zs d.waits) (w.drewN q) (by simp) hnc (by unfold maxLen at hmc; omega) (by omega) (by omega) (hcz q) (fun j _ => hVq.free _)
    rw [show ((aa + 1 : Nat) : Int) = (aa : Int) + 1 by omega, hnn] at hc
    refine hc.mono ?_
    rintro e w' ⟨rfl, q2, rfl⟩
    have e1 : nn - (aa + 1 - aa) = nn - 1 := by omega
    rw [e1]
    have e2 : (((zs d.waits).take nn).take aa ++ ((zs d.waits).take nn).drop (aa + 1) ++ List.replicate (aa + 1 - aa) (0 : Int)).map (Value.int .i64) = natsV (A ++ B) ++ [Value.int .i64 0] := by
      have h7 : (zs d.waits).take nn = zs d.waits := List.take_of_length_le (by simp [hnn])
      rw [h7, hw]
      have h8 : (zs (A ++ k :: B)).take aa = zs A := by rw [zs, List.map_append, List.take_left' (by simp [haa])]
      have h9 : (zs (A ++ k :: B)).drop (aa + 1) = zs B := by
        rw [zs, List.map_append, ← List.drop_drop, List.drop_left' (by simp [haa])]
        rfl
      rw [h8, h9, show aa + 1 - aa = 1 by omega]
      simp [zs, natsV]
      rfl
    rw [e2]
    have hdr : Below w.heap.size w ((w.drewN q).drewN q2) := on_drewN (HE.out q) q2
    obtain ⟨w1, hw1⟩ : ∃ w1, ((w.drewN q).drewN q2).setCells vb 0 (natsV (A ++ B) ++ [Value.int .i64 0]) = w1 := ⟨_, rfl⟩
    rw [hw1]
    have hbut := but_setCells vb (natsV (A ++ B) ++ [Value.int .i64 0]) 0 ((w.drewN q).drewN q2)
    have hlb : (natsV (A ++ B) ++ [Value.int .i64 0]).length = nn := by simp only [List.length_append, List.length_map, List.length_singleton]; rw [← hnn, hw]; simp; omega
    have hVs := blk_setCells (natsV (A ++ B) ++ [Value.int .i64 0]) 0 ((w.drewN q).drewN q2) cs (hV.on hdr) (by rw [hlb, hcl]; omega)
    rw [hw1] at hbut hVs
    have hBd1 : Blk w1 (g dk) 79 (skC d q9 (.slice (some ⟨vb, 0, none⟩) d.waits.length vc)) := (hBd.on hdr).but hbut (Ne.symm hvg.1)
    have hvk : vb ≠ g k := fun e => by
      have h7 : typ w vb 3 := typ_blk hV
      rw [e] at h7
      exact int_sk h7 (typ_blk hB)
    have hBk1 : Blk w1 (g k) 79 (skC x qb wv) := (hB.on hdr).but hbut (Ne.symm hvk)
    refine ⟨rfl, ⟨by rw [← hnn]; exact hBd1.cell 6 rfl, hBd1.free 6, by rw [← hdk]; exact hBk1.cell 5 rfl, hBk1.free 5⟩, ?_⟩
    have hrow1 : w1.ownsRow 0 3 1 (.slice (some ⟨vb, 0, none⟩) (nn - 1) vc) (nn - 1) (natsV (A ++ B)) := by
      refine rowS_of hVs ?_ (by omega) hmc (Nat.zero_le _) ?_ ?_
      · rw [hlb, List.length_append, List.length_append, hlb]
        simp
        omega
      · rw [List.take_zero, List.nil_append, Nat.mul_one, List.append_assoc, List.take_left' (by
          have := hlb
          simp only [List.length_append, List.length_singleton] at this
          omega)]
      · have := hlb
        simp only [List.length_append, List.length_singleton] at this
        omega
    have hK : Keep (fun b => (Value.slice (some ⟨vb, 0, none⟩) d.waits.length vc).ownBlock ≠ some b) w w1 := (keep_on hdr).trans (keep_but hbut fun h7 => h7 rfl)
    obtain ⟨P1, h1, m1⟩ := h.rewait ho hBd hK hrow1 (fun b e => .inl e)
    have hk1 : setT T dk (some { d with waits := A ++ B }) k = some x := by rw [setT_other T _ (Ne.symm hne)]; exact hk
    have hBk2 := hBk1.but (but_set w1 (g dk) 6 (.slice (some ⟨vb, 0, none⟩) (nn - 1) vc)) hg2
    obtain ⟨P2, h2, m2⟩ := h1.set (x' := { x with door := 0 }) hk1 hBk2 (but_set _ _ 5 (.int .i64 0)) (hBk2.set 5 _) rfl rfl
    exact ⟨rfl, P2, h2, m1.trans m2⟩
  rw [hnn] at z6
  generalize Left P w sb mb n next g (setT (setT T dk (some { d with waits := A ++ B })) k (some { x with door := 0 })) (.tuple #[]) = Post at *
  clear h hk hB ho hBd hrow hown hV hcz hvg htk hcl hnc hmc hw hA hnn hlen haa hdk
  go_enter Try.func69, Try.ntmps69
  go_wp2
  go_quiet (fail)
  go_wp2_with fail
  refine (HI.out _).mono ?_
  rintro e w1 ⟨rfl, hw1⟩
  subst w1
  go_wp2_with fail
  refine (HD.out _).mono ?_
  rintro e w2 ⟨rfl, ⟨a1, a2, a3, a4⟩, hE⟩
  have HE2 : Hid _ := hE
  clear HI HD hE hl2 hl1 x0 z6 y5
  go_wp2
  go_end0
  exact HE2.out
end

end Go.Proofs.Ytfhkdndgiofidaa.X

namespace Go.Proofs.Ytfhkdndgiofidaa.X
open Go Go.RowKit Go.Maps Go.Proofs.Ytfhkdndgiofidaa.K

section
variable {P : Nat → Prop} {w : World} {sb mb n next k : Nat} {g : Nat → Nat} {T : Tb} {x d y : Sk}
theorem accept_un (h : StG P w sb mb n next g T) (hk : T k = some x) (hs : x.st ≠ 1) : Calls Try.prog 33 #[ptr sb, .int .i64 (k : Int)] w fun e w' => e = .returned (.tuple #[.int .i64 0, .int .i64 22]) ∧ w' = w := by
  have cG := get_yes h hk
  obtain ⟨qb, p, c, hB, hc, hat⟩ := h.at hk
  have y1 := hB.cell 1 rfl
  have hsz : ¬ (x.st : Int) = 1 := by omega
  clear h hk hB hat hs
  go_enter Try.func33, Try.ntmps33
  go_wp2_with fail
  refine cG.mono ?_
  rintro e w1 ⟨rfl, hw1⟩
  subst w1
  clear cG
  go_wp2
  go_ret2
  exact ⟨rfl, rfl⟩
theorem accept_none (h : StG P w sb mb n next g T) (hk : T k = some x) (hs : x.st = 1) (hw : x.waits = []) : Calls Try.prog 33 #[ptr sb, .int .i64 (k : Int)] w fun e w' => e = .returned (.tuple #[.int .i64 0, .int .i64 35]) ∧ w' = w := by
  have cG := get_yes h hk
  obtain ⟨qb, p, c, hB, hc, hat⟩ := h.at hk
  have y1 := hB.cell 1 rfl
  have y6 := hB.cell 6 rfl
  rw [hs] at y1
  rw [hw, List.length_nil] at y6
  clear h hk hB hat hs hw hc
  go_enter Try.func33, Try.ntmps33
  go_wp2_with fail
  refine cG.mono ?_
  rintro e w1 ⟨rfl, hw1⟩
  subst w1
  clear cG
  go_wp2
  go_ret2
  exact ⟨rfl, rfl⟩
theorem accept_good (h : StG P w sb mb n next g T) (hk : T k = some x) (hs : x.st = 1) {f : Nat} {r : List Nat} (hw : x.waits = f :: r) (hy : T f = some y) (hd : y.door = k) (hne : k ≠ f) (hlen : x.waits.length ≤ 1000) :
    Calls Try.prog 33 #[ptr sb, .int .i64 (k : Int)] w (Left P w sb mb n next g (setT (setT T k (some { x with waits := r })) f (some { y with door := 0 })) (.tuple #[.int .i64 (f : Int), .int .i64 0])) := by
  have cG := get_yes h hk
  obtain ⟨qb, p, c, hB, hc, hat⟩ := h.at hk
  have y1 := hB.cell 1 rfl
  have y6 := hB.cell 6 rfl
  rw [hs] at y1
  obtain ⟨b, off, rfl, _, _, hcell⟩ := hat.place (k := 0) (by rw [hw]; simp)
  have z0 := hcell 0 (.int .i64 (f : Int)) (by rw [hw]; rfl)
  rw [Nat.add_zero] at z0
  have cL := leave_in (A := []) (B := r) h hy hd hk hne hw (by simp) hlen
  rw [List.nil_append] at cL
  obtain ⟨nn, hnn⟩ : ∃ nn, x.waits.length = nn := ⟨_, rfl⟩
  have hn0 : ¬ (nn : Int) = 0 := by rw [← hnn, hw]; simp; omega
  have hn1 : (0 : Int) < (nn : Int) := by omega
  have hn2 : 0 < nn := by omega
  rw [hnn] at y6
  have HP : Hid (∀ W, Left P w sb mb n next g (setT (setT T k (some { x with waits := r })) f (some { y with door := 0 })) (.tuple #[]) (.returned (.tuple #[])) W → Left P w sb mb n next g (setT (setT T k (some { x with waits := r })) f (some { y with door := 0 })) (.tuple #[.int .i64 (f : Int), .int .i64 0]) (.returned (.tuple #[.int .i64 (f : Int), .int .i64 0])) W) := fun W h7 => ⟨rfl, h7.2⟩
  have HQ : Hid (∀ e W, Left P w sb mb n next g (setT (setT T k (some { x with waits := r })) f (some { y with door := 0 })) (.tuple #[]) e W → e = .returned (.tuple #[])) := fun e W h7 => h7.1
  generalize Left P w sb mb n next g (setT (setT T k (some { x with waits := r })) f (some { y with door := 0 })) (.tuple #[.int .i64 (f : Int), .int .i64 0]) = Post at *
  generalize Left P w sb mb n next g (setT (setT T k (some { x with waits := r })) f (some { y with door := 0 })) (.tuple #[]) = Post1 at *
  clear h hk hB hat hs hy hd hw hcell hnn hlen hc
  go_enter Try.func33, Try.ntmps33
  go_wp2_with fail
  refine cG.mono ?_
  rintro e w1 ⟨rfl, hw1⟩
  subst w1
  clear cG
  go_wp2_with fail
  refine cL.mono ?_
  intro e w2 h2
  obtain rfl := HQ.out e w2 h2
  have HE := HP.out w2 h2
  clear cL HP HQ h2
  go_wp2
  exact HE
set_option maxRecDepth 100000 in
set_option maxHeartbeats 1000000 in
theorem con_joined (h : StG P w sb mb n next g T) (hk : T k = some x) {z : Int} (hw : (Lit.int .i64 z).wf = true) (hs : x.st = 2) : Calls Try.prog 31 #[ptr sb, .int .i64 (k : Int), .int .i64 z] w fun e w' => e = .returned (.int .i64 56) ∧ w' = w := by
  have cG := get_yes h hk
  obtain ⟨qb, p, c, hB, hc, hat⟩ := h.at hk
  have y1 := hB.cell 1 rfl
  have cD := get_some h hw
  rw [hs] at y1
  clear h hk hB hat hs
  go_enter Try.func31, Try.ntmps31
  go_wp2_with fail
  refine cG.mono ?_
  rintro e w1 ⟨rfl, hw1⟩
  subst w1
  clear cG
  go_wp2_with fail
  refine cD.mono ?_
  rintro e w1 ⟨⟨dv, rfl⟩, hw1⟩
  subst w1
  clear cD
  go_wp2
  go_ret
  exact ⟨rfl, rfl⟩
set_option maxRecDepth 100000 in
set_option maxHeartbeats 1000000 in
theorem con_listens (h : StG P w sb mb n next g T) (hk : T k = some x) {z : Int} (hw : (Lit.int .i64 z).wf = true) (hs : x.st = 1) : Calls Try.prog 31 #[ptr sb, .int .i64 (k : Int), .int .i64 z] w fun e w' => e = .returned (.int .i64 45) ∧ w' = w := by
  have cG := get_yes h hk
  obtain ⟨qb, p, c, hB, hc, hat⟩ := h.at hk
  have y1 := hB.cell 1 rfl
  have cD := get_some h hw
  rw [hs] at y1
  clear h hk hB hat hs
  go_enter Try.func31, Try.ntmps31
  go_wp2_with fail
  refine cG.mono ?_
  rintro e w1 ⟨rfl, hw1⟩
  subst w1
  clear cG
  go_wp2_with fail
  refine cD.mono ?_
  rintro e w1 ⟨⟨dv, rfl⟩, hw1⟩
  subst w1
  clear cD
  go_wp2
  go_ret
  exact ⟨rfl, rfl⟩
set_option maxRecDepth 100000 in
set_option maxHeartbeats 1000000 in
theorem con_nowhere (h : StG P w sb mb n next g T) (hk : T k = some x) {z : Int} (hz : NoT T z) (h1 : x.st ≠ 1) (h2 : x.st ≠ 2) : Calls Try.prog 31 #[ptr sb, .int .i64 (k : Int), .int .i64 z] w fun e w' => e = .returned (.int .i64 61) ∧ w' = w := by
  have cG := get_yes h hk
  obtain ⟨qb, p, c, hB, hc, hat⟩ := h.at hk
  have y1 := hB.cell 1 rfl
  have cD := get_no h hz
  have h1z : ¬ (x.st : Int) = 1 := by omega
  have h2z : ¬ (x.st : Int) = 2 := by omega
  clear h hk hB hat h1 h2 hz
  go_enter Try.func31, Try.ntmps31
  go_wp2_with fail
  refine cG.mono ?_
  rintro e w1 ⟨rfl, hw1⟩
  subst w1
  clear cG
  go_wp2_with fail
  refine cD.mono ?_
  rintro e w1 ⟨rfl, hw1⟩
  subst w1
  clear cD
  go_wp2
  go_ret
  exact ⟨rfl, rfl⟩
set_option maxRecDepth 100000 in
set_option maxHeartbeats 1000000 in
theorem con_deaf (h : StG P w sb mb n next g T) (hk : T k = some x) {t : Nat} (ht : T t = some d) {z : Int} (hz : z = t) (h1 : x.st ≠ 1) (h2 : x.st ≠ 2) (hd : d.st ≠ 1) : Calls Try.prog 31 #[ptr sb, .int .i64 (k : Int), .int .i64 z] w fun e w' => e = .returned (.int .i64 61) ∧ w' = w := by
  have cG := get_yes h hk
  obtain ⟨qb, p, c, hB, hc, hat⟩ := h.at hk
  have y1 := hB.cell 1 rfl
  subst hz
  have cD := get_yes h ht
  obtain ⟨_, _, _, hB2, _, _⟩ := h.at ht
  have z1 := hB2.cell 1 rfl
  have h1z : ¬ (x.st : Int) = 1 := by omega
  have h2z : ¬ (x.st : Int) = 2 := by omega
  have h3z : ¬ (d.st : Int) = 1 := by omega
  clear h hk hB hat h1 h2 hd ht hB2
  go_enter Try.func31, Try.ntmps31
  go_wp2_with fail
  refine cG.mono ?_
  rintro e w1 ⟨rfl, hw1⟩
  subst w1
  clear cG
  go_wp2_with fail
  refine cD.mono ?_
  rintro e w1 ⟨rfl, hw1⟩
  subst w1
  clear cD
  go_wp2
  go_ret
  exact ⟨rfl, rfl⟩
set_option maxRecDepth 100000 in
set_option maxHeartbeats 1000000 in
theorem con_full (h : StG P w sb mb n next g T) (hk : T k = some x) {t : Nat} (ht : T t = some d) {z : Int} (hz : z = t) (h1 : x.st ≠ 1) (h2 : x.st ≠ 2) (hd : d.st = 1) (hf : d.most ≤ d.waits.length) : Calls Try.prog 31 #[ptr sb, .int .i64 (k : Int), .int .i64 z] w fun e w' => e = .returned (.int .i64 61) ∧ Below w.heap.size w w' := by
  have cG := get_yes h hk
  obtain ⟨qb, p, c, hB, hc, hat⟩ := h.at hk
  have y1 := hB.cell 1 rfl
  subst hz
  have cD := get_yes h ht
  obtain ⟨_, p2, c2, hB2, _, _⟩ := h.at ht
  have z1 := hB2.cell 1 rfl
  have z4 := hB2.cell 4 rfl
  have z6 := hB2.cell 6 rfl
  rw [hd] at z1
  have h1z : ¬ (x.st : Int) = 1 := by omega
  have h2z : ¬ (x.st : Int) = 2 := by omega
  have h3z : (d.most : Int) ≤ (d.waits.length : Int) := by omega
  have HE : Hid (∀ q, Below w.heap.size w (w.drewN q)) := fun q => on_drewN (Below.refl _ _) q
  generalize d.waits.length = nn at *
  clear h hk hB hat h1 h2 hd ht hB2
  go_enter Try.func31, Try.ntmps31
  go_wp2_with fail
  refine cG.mono ?_
  rintro e w1 ⟨rfl, hw1⟩
  subst w1
  clear cG
  go_wp2_with fail
  refine cD.mono ?_
  rintro e w1 ⟨rfl, hw1⟩
  subst w1
  clear cD
  go_wp2
  go_quiet (fail)
  go_wp2
  go_ret
  exact ⟨rfl, HE.out _⟩
end

end Go.Proofs.Ytfhkdndgiofidaa.X

namespace Go.Proofs.Ytfhkdndgiofidaa.X
open Go Go.RowKit Go.Maps Go.Proofs.Ytfhkdndgiofidaa.K

section
variable {P : Nat → Prop} {w : World} {sb mb n next k : Nat} {g : Nat → Nat} {T : Tb} {x d y : Sk}
/-- A socket more, which waits. -/
def conT (T : Tb) (k to next : Nat) (x d : Sk) : Tb := setT (setT (joinT (setT T next (some freshK)) k next x freshK) next (some { freshK with st := 2, peer := k, door := to })) to (some { d with waits := d.waits ++ [next] })
def ConPost (P : Nat → Prop) (w : World) (sb mb n next : Nat) (T : Tb) (k to : Nat) (x d : Sk) (e : Ending) (w' : World) : Prop := e = .returned (.int .i64 0) ∧ ∃ g' P', StG P' w' sb mb n (next + 1) g' (conT T k to next x d) ∧ Moves P P' w w'
theorem elemIntS : ElemS Try.prog 42 3 (.int .i64 0) 1 8 := ⟨Try.underlying42, by kernel_rfl, rfl, by decide, by decide⟩
set_option maxRecDepth 100000 in
set_option maxHeartbeats 4000000 in
theorem con_good (h : StG P w sb mb n next g T) (hk : T k = some x) {t : Nat} (ht : T t = some d) (h1 : x.st ≠ 1) (h2 : x.st ≠ 2) (hd : d.st = 1) (hf : d.waits.length < d.most) (hl : d.waits.length ≤ 1000) (hn : 1 ≤ n ∧ n ≤ 4096) (h0 : next ≠ 0) (hnx : T next = none) (hnl : next < 1023) :
    Calls Try.prog 31 #[ptr sb, .int .i64 (k : Int), .int .i64 (t : Int)] w (ConPost P w sb mb n next T k t x d) := by
  have hkt : k ≠ t := fun e => by subst e; rw [hk] at ht; cases ht; exact h1 hd
  have hkn : k ≠ next := fun e => by subst e; rw [hk] at hnx; cases hnx
  have htn : t ≠ next := fun e => by subst e; rw [ht] at hnx; cases hnx
  have cG := get_yes h hk
  have cD := get_yes h ht
  obtain ⟨qb, p, c, hB, _, _⟩ := h.at hk
  have y1 := hB.cell 1 rfl
  obtain ⟨_, p2, c2, hB2, _, _⟩ := h.at ht
  have z1 := hB2.cell 1 rfl
  have z4 := hB2.cell 4 rfl
  have z6 := hB2.cell 6 rfl
  rw [hd] at z1
  have h1z : ¬ (x.st : Int) = 1 := by omega
  have h2z : ¬ (x.st : Int) = 2 := by omega
  have h3z : ¬ (d.most : Int) ≤ (d.waits.length : Int) := by omega
  have HM : Hid (∀ q, Calls Try.prog 34 #[ptr sb] (w.drewN q) fun e w' => e = .returned (.int .i64 (next : Int)) ∧ ∃ b P', StG P' w' sb mb n (next + 1) (putG g next b) (setT T next (some freshK)) ∧ Moves P P' w w') := fun q => by
    have hb := on_drewN (Below.refl w.heap.size w) q
    refine (make_any (h.on hb) hn h0 hnx hnl).mono ?_
    rintro e w' ⟨h3, b, P', h4, h5⟩
    exact ⟨h3, b, P', h4, (Moves.on hb).trans h5⟩
  have HP : Hid (∀ W g' P', StG P' W sb mb n (next + 1) g' (conT T k t next x d) → Moves P P' w W → ConPost P w sb mb n next T k t x d (.returned (.int .i64 0)) W) := fun W g' P' h3 h4 => ⟨rfl, g', P', h3, h4⟩
  have hT1 : setT T next (some freshK) k = some x := by rw [setT_other T _ hkn]; exact hk
  have hT2 : joinT (setT T next (some freshK)) k next x freshK next = some { freshK with st := 2, peer := k } := by unfold joinT; rw [setT_same]
  have hT3 : setT (joinT (setT T next (some freshK)) k next x freshK) next (some { freshK with st := 2, peer := k, door := t }) t = some d := by
    unfold joinT
    rw [setT_other _ _ htn, setT_other _ _ htn, setT_other _ _ (Ne.symm hkt), setT_other _ _ htn]
    exact ht
  have hT4 : joinT (setT T next (some freshK)) k next x freshK t = some d := by rw [setT_other _ _ htn] at hT3; exact hT3
  have HT : Hid _ := And.intro hT1 (And.intro hT2 (And.intro hT3 (And.intro hl hT4)))
  generalize ConPost P w sb mb n next T k t x d = Post at *
  obtain ⟨nn, hnn⟩ : ∃ nn, d.waits.length = nn := ⟨_, rfl⟩
  rw [hnn] at z6 h3z
  clear h hk hB hB2 h1 h2 hd ht hf hn hnx hT1 hT2 hT3 hT4 hl hnn
  go_enter Try.func31, Try.ntmps31
  go_wp2_with fail
  refine cG.mono ?_
  rintro e w1 ⟨rfl, hw1⟩
  subst w1
  clear cG
  go_wp2_with fail
  refine cD.mono ?_
  rintro e w1 ⟨rfl, hw1⟩
  subst w1
  clear cD
  go_wp2
  go_quiet (fail)
  go_wp2_with fail
  refine (HM.out _).mono ?_
  rintro e w1 ⟨rfl, b1, P1, s1, m1⟩
  have c3 := join_any s1 HT.out.1 (setT_same T next (some freshK)) hkn
  have HM1 : Hid _ := m1
  clear HM s1 m1 y1 z1 z4 z6
  go_wp2_with fail
  refine c3.mono ?_
  rintro e w2 ⟨rfl, P2, s2, m2⟩
  have HM2 : Hid _ := HM1.out.trans m2
  clear c3 HM1 m2
  have x0 := s2.box.cell 0 rfl
  have hlk := s2.look_yes HT.out.2.1
  obtain ⟨q3, p3, c3, hB3, _, _⟩ := s2.at HT.out.2.1
  have y5 := hB3.cell 5 rfl
  have f5 := hB3.free 5
  rw [putG_same] at hlk y5 f5 hB3
  obtain ⟨P3, s3, m3⟩ := s2.set (x' := { freshK with st := 2, peer := k, door := t }) HT.out.2.1 (by rw [putG_same]; exact hB3) (w' := w2.setCell ⟨b1, 5, none⟩ (.int .i64 (t : Int))) (by rw [putG_same]; exact but_set _ _ _ _) (by rw [putG_same]; exact hB3.set 5 _) rfl rfl
  have HM3 : Hid _ := HM2.out.trans m3
  have hsz : (w2.setCell ⟨b1, 5, none⟩ (.int .i64 (t : Int))).heap.size = w2.heap.size := (but_set w2 b1 5 (.int .i64 (t : Int))).size
  have hb4 := on_alloc (w2.setCell ⟨b1, 5, none⟩ (.int .i64 (t : Int))) (.cells #[.int .i64 (next : Int)] 3)
  obtain ⟨q4, wv4, hB4, hrow4, hown4⟩ := s3.row HT.out.2.2.1
  obtain ⟨p5, c5, e5, _⟩ := rowS_at hrow4
  subst e5
  rw [putG_other htn] at hB4 hown4
  have hgb : g t ≠ b1 := by
    have h7 := s2.gne HT.out.2.2.2.2 HT.out.2.1 htn
    rw [putG_other htn, putG_same] at h7
    exact h7
  have hgb2 : b1 ≠ g t := Ne.symm hgb
  have z6 : w2.cell? ⟨g t, 6, none⟩ = some (.slice p5 d.waits.length c5) := by
    obtain ⟨_, _, _, hB9, _⟩ := s2.at HT.out.2.2.2.2
    rw [putG_other htn] at hB9
    have h9 := hB9.but (but_set w2 b1 5 (.int .i64 (t : Int))) hgb
    have h8 := (skC_one (blk_one h9 hB4)).2
    rw [← h8]
    exact hB9.cell 6 rfl
  have s4 := s3.on hb4
  have hBn := Blk.new (w2.setCell ⟨b1, 5, none⟩ (.int .i64 (t : Int))) 3 [.int .i64 (next : Int)]
  rw [hsz] at hBn
  have hat6 : At ((w2.setCell ⟨b1, 5, none⟩ (.int .i64 (t : Int))).alloc (.cells #[.int .i64 (next : Int)] 3)) (some ⟨w2.heap.size, 0, none⟩) [.int .i64 (next : Int)] := .inr ⟨w2.heap.size, 0, rfl, Nat.zero_le _, hBn.lt, fun j u hj => by rw [Nat.zero_add]; exact hBn.cell j hj⟩
  obtain ⟨v6, w6, hrun6, ho6, _, hg6⟩ := append_rowA elemIntS 0 (.slice p5 d.waits.length c5) d.waits.length (natsV d.waits) (some ⟨w2.heap.size, 0, none⟩) 1 1 [.int .i64 (next : Int)] ((w2.setCell ⟨b1, 5, none⟩ (.int .i64 (t : Int))).alloc (.cells #[.int .i64 (next : Int)] 3)) (by have := HT.out.2.2.2.1; omega) (by omega) rfl (fun u hu => by simp at hu; subst hu; rfl) (rowS_on hrow4 hb4) hat6 (Nat.zero_le _)
  have hrun := hrun6 42
  have ho7 : w6.ownsRow 0 3 1 v6 (d.waits.length + 1) (natsV (d.waits ++ [next])) := by
    rw [show natsV (d.waits ++ [next]) = natsV d.waits ++ [.int .i64 (next : Int)] by simp [natsV]]
    exact ho6
  have hK6 : Keep (fun b => (Value.slice p5 d.waits.length c5).ownBlock ≠ some b) ((w2.setCell ⟨b1, 5, none⟩ (.int .i64 (t : Int))).alloc (.cells #[.int .i64 (next : Int)] 3)) w6 := ⟨hg6.os, hg6.tape, hg6.output, hg6.size, fun j h1 h2 => hg6.block j h1 h2⟩
  obtain ⟨P7, s7, m7⟩ := s4.rewait HT.out.2.2.1 (by rw [putG_other htn]; exact hB4.on hb4) hK6 ho7 (fun j e => hg6.lies j e)
  rw [putG_other htn] at s7 m7
  have hB6 : Blk w6 (g t) 79 (skC d q4 (.slice p5 d.waits.length c5)) := hK6.blk (hB4.on hb4) fun e => (hown4 _ e).1 rfl
  have a6 := hB6.cell 6 rfl
  have a7 := hB6.free 6
  have HE := HP.out _ _ P7 s7 ((HM3.out.trans (Moves.on hb4)).trans m7)
  obtain ⟨p8, c8, e8, _⟩ := rowS_at ho7
  subst e8
  clear HP HM3 HM2 s2 s3 s4 s7 m3 m7 hB3 hB4 hB6 hrow4 ho6 ho7 hg6 hK6 hat6 hrun6 hb4 hown4 hBn hsz
  generalize d.waits.length = nn at *
  go_wp2_with (at_builtin; refine wpList_run_append (by rfl) _ _ _ (by rfl) _ _ (by rfl) (by rfl) hrun ?_)
  exact HE
end

end Go.Proofs.Ytfhkdndgiofidaa.X
