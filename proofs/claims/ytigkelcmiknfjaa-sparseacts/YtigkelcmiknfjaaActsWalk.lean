/- The law SparseActs answers true at every input. -/
import Derived.Test.YtigkelcmiknfjaaSLaw
namespace Go.Proofs.Ytigkelcmiknfjaa
open Go Go.RowKit Go.Maps

set_option maxRecDepth 100000 in
set_option maxHeartbeats 8000000 in
theorem acts_walk (p : Option Addr) (cap : Nat) (l : List ActV) (w : World) (hcap : l.length ≤ cap) (hl : l.length ≤ 9223372036854775807) (hat : At w p (actsV l) ∧ ∀ x ∈ l, ActOk w x) :
    Calls Try.prog 3 #[.slice p l.length cap] w fun e w' => e = .returned (.bool true) ∧ Below w.heap.size w w' := by
  have HO : Hid (∀ x ∈ smallL l, SmOk w x) := smallL_ok hat.2
  have HA : Hid (At w p (actsV l) ∧ ∀ x ∈ l, ActOk w x) := hat
  have hN : (smallL l).length ≤ 25 := by rw [smallL_len]; simp; omega
  have hnew := new_any w
  clear hat
  go_enter Try.func3, Try.ntmps3
  go_wp2_with fail
  refine hnew.mono ?_
  rintro e w1 ⟨rfl, f1, hb1⟩
  have hba := on_alloc w1 (.cells #[.slice none 0 0, .slice none 0 0] 28)
  have hb12 : Below w.heap.size w (w1.alloc (.cells #[.slice none 0 0, .slice none 0 0] 28)) := on_trans hb1 hba
  have hsm := small_any p cap l (w1.alloc (.cells #[.slice none 0 0, .slice none 0 0] 28)) hcap hl (HA.out.1.below hb12 (Nat.le_refl _)) (fun x hx => by
    have o := HA.out.2 x hx
    exact ⟨o.kw, o.aw, o.rw_, o.cap, o.at_.below hb12 (Nat.le_refl _)⟩)
  have hlt1 := f1.lt f1.self
  have HF1 : Hid (FileAt (w1.alloc (.cells #[.slice none 0 0, .slice none 0 0] 28)) w.heap.size (fun x => x = w.heap.size) 0 (fun _ => 0) (fun _ => false) ∧ Below w.heap.size w (w1.alloc (.cells #[.slice none 0 0, .slice none 0 0] 28)) ∧ w.heap.size < w1.heap.size ∧ Blk (w1.alloc (.cells #[.slice none 0 0, .slice none 0 0] 28)) w1.heap.size 28 [.slice none 0 0, .slice none 0 0]) := ⟨f1.on hba, hb12, hlt1, Blk.new w1 _ _⟩
  have hsz1 : (w1.alloc (.cells #[.slice none 0 0, .slice none 0 0] 28)).heap.size = w1.heap.size + 1 := by simp
  clear f1 hb1 hnew hlt1 hba hb12
  go_wp2_with fail
  refine hsm.mono ?_
  rintro e w2 ⟨q, c2, rfl, hat2, hb2⟩
  rw [hsz1] at hat2
  have HI0 : Hid (LawG w q (smallL l) w1.heap.size St.new (fun x => x = w.heap.size) (.slice none 0 0) (.slice none 0 0) [] [] w2) := by
    obtain ⟨h1, h2, h3, h4⟩ := HF1.out
    exact ⟨⟨⟨h1.on hb2, Nat.zero_le _⟩, fun x hx => by omega, on_trans h2 hb2, Nat.le_trans h2.size hb2.size, atC_new hat2 fun x hx => by omega⟩, h4.on hb2, ⟨none, none, 0, 0, rfl, .inl rfl, .inl rfl⟩, rel_new⟩
  have HQ : Hid (∀ b off, q = some ⟨b, off, none⟩ → smallL l ≠ [] → w1.heap.size < b) := fun b off e hne => by
    rcases hat2 with h0 | ⟨b', off', e', hlo, _, _⟩
    · exfalso
      have := actsV_len (smallL l)
      rw [h0] at this
      have h7 : 0 < (smallL l).length := List.length_pos_iff.2 hne
      simp at this
      omega
    · rw [e] at e'; cases e'; omega
  have HG1 : Hid (w.heap.size < w1.heap.size) := HF1.out.2.2.1
  clear hsm hat2 hb2 HF1 HA hsz1
  generalize smallL l = L at *
  generalize w1.heap.size = gb at *
  obtain ⟨N, HN⟩ : ∃ N, Hid (L.length = N) := ⟨_, rfl⟩
  have hLN : L.length = N := HN.out
  rw [hLN] at hN ⊢
  clear hLN
  go_wp2
  go_loopw [5] (fun iv wr => ∃ (k : Nat) (s : St) (F : Nat → Prop) (g0 g1 : Value) (B : List UInt8) (H : List Bool), k ≤ N ∧ iv = .int .i64 k ∧ Hid (LawG w q L gb s F g0 g1 B H wr)) (fun iv _ => N - (intOf iv).toNat)
  case atStart => exact ⟨0, St.new, _, _, _, _, _, Nat.zero_le _, rfl, HI0⟩
  case round =>
    clear HI0
    obtain ⟨k, s, F, g0, g1, B, H, hk, rfl, HI⟩ := hrel
    by_cases hlt : k < N
    · have hltz : (k : Int) < (N : Int) := by omega
      have hlt2 : k < L.length := by have := HN.out; omega
      have hpl : ∃ b off, q = some ⟨b, off, none⟩ ∧ b < wr.heap.size := by
        rcases HI.out.law.acts with h0 | ⟨b, off, e, _, hbl, _⟩
        · exfalso
          have := actsV_len L
          rw [h0] at this
          simp at this
          omega
        · exact ⟨b, off, e, hbl⟩
      obtain ⟨b, off, hq, hbl⟩ := hpl
      subst hq
      have hgb : gb < b := HQ.out b off rfl (fun e => by rw [e] at hlt2; simp at hlt2)
      have HCW : Hid (∀ i, i < 4 → ∀ v, (L[k].cells)[i]? = some v → wr.cell? ⟨b, off + k * 4 + i, none⟩ = some v) := fun i hi v hv => by
        rw [Nat.add_assoc]; exact HI.out.law.cell hlt2 hi hv
      have ok := HO.out L[k] (by simp)
      obtain ⟨x, hxe⟩ : ∃ x, L[k] = x := ⟨_, rfl⟩
      rw [hxe] at ok HCW
      obtain ⟨xk, xa, xp, xc, xB, xr⟩ := x
      have HXB : Hid (∀ W {s : St} {F : Nat → Prop}, LawI w (some ⟨b, off, none⟩) L s F W → AtC F W xp (bytesV xB)) := fun W s F hI => by
        have h1 := ok.ok.at_
        rcases h1 with h0 | ⟨b', off', e, _, hbl', hc⟩
        · exact .inl h0
        · exact .inr ⟨b', off', e, fun hF => by have := hI.lo b' hF; omega, Nat.lt_of_lt_of_le hbl' hI.size, fun j v hj => (hI.below.cell (p := ⟨b', off' + j, none⟩) hbl').trans (hc j v hj)⟩
      have hws : w.heap.size ≤ wr.heap.size := HI.out.law.size
      go_wp2
      refine wp_region_five (S := ActS w b off k wr.heap.size gb L s F g0 g1 B H ⟨xk, xa, xp, xc, xB, xr⟩) (u := 10) (tu := 6) (u2 := 6) (Keep := ActK wr.heap.size)
        (g := actG w b off wr.heap.size gb L [.pointer (some ⟨w.heap.size, 0, none⟩), .agg #[g0, g1], .slice (some ⟨b, off, none⟩) N c2, .int .i64 k, .pointer (some ⟨b, off + k * 4, none⟩), .agg #[.int .i64 xk, .int .i64 xa, .slice xp xB.length xc, .int .i64 xr], undef, undef, undef, .bool true, undef, undef, .bool true])
        (tab := [[(3, none)], [(4, none)], [(0, none)], [(5, none)], [(23, some 2), (24, some 3)], [(25, some 4)], [(21, some 0), (22, some 1), (26, some 5)], [(27, some 6)], [(20, some 7)], [(20, some 7)], [], [(6, some 10), (28, some 8)], [(29, some 9)]]) (tl := []) (n := 52)
        (by kernel_rfl) rfl (by kernel_rfl) (by kernel_rfl) (act_x (by kernel_rfl)) (act_keep hws hbl (by omega) (by kernel_rfl) (by kernel_rfl) (by kernel_rfl)) ?s0 ?st ?en
      case s0 =>
        have h7 := HI.out.on (on_drew (Below.refl _ _))
        exact ⟨HCW.out, fun _ => h7, Nat.le_refl _, fun e => by cases e⟩
      case st =>
        refine ⟨fun ρ W f f2 hf hf2 hf3 hf4 hr hS hs => ?_, fun ρ W f f2 hf hf2 hf3 hf4 hr hS hs => ?_, fun ρ W f f2 hf hf2 hf3 hf4 hr hS hs => ?_, fun ρ W f f2 hf hf2 hf3 hf4 hr hS hs => ?_, fun ρ W f f2 hf hf2 hf3 hf4 hr hS hs => ?_, fun ρ W f f2 hf hf2 hf3 hf4 hr hS hs => ?_, fun ρ W f f2 hf hf2 hf3 hf4 hr hS hs => ?_, fun ρ W f f2 hf hf2 hf3 hf4 hr hS hs => ?_, fun ρ W f f2 hf hf2 hf3 hf4 hr hS hs => ?_, fun ρ W f f2 hf hf2 hf3 hf4 hr hS hs => ?_, fun ρ W f f2 hf hf2 hf3 hf4 hr hS hs => ?_, fun ρ W f f2 hf hf2 hf3 hf4 hr hS hs => ?_, fun ρ W f f2 hf hf2 hf3 hf4 hr hS hs => ?_, trivial⟩
        · exact step4_plain rfl (by decide) (leaves_move (.tmp 3) rfl ⟨hs.1, by simpa using hS, actK_on (by decide) (by decide) (Below.refl _ _)⟩)
        · have hL := hS.gb1 (hf3 (by kernel_rfl))
          exact step4_plain rfl (by decide) (leaves_load (cs := [g0, g1]) Try.isAgg28 infoRef (.tmp 4) rfl hs.1 hL.gbox ⟨rfl, by simpa using hS, actK_on (by decide) (by decide) (Below.refl _ _)⟩)
        · exact step4_plain rfl (by decide) (leaves_move (.tmp 0) rfl ⟨hs.1, by simpa using hS, actK_on (by decide) (by decide) (Below.refl _ _)⟩)
        · exact step4_plain rfl (by decide) (leaves_move (.tmp 5) rfl ⟨hs.1, by simpa using hS, actK_on (by decide) (by decide) (Below.refl _ _)⟩)
        · exact step4_plain rfl (by decide) (leaves_actIndex (.tmp 23) (.tmp 24) rfl hs.1 hs.2.1 hlt ⟨rfl, by simpa using hS, actK_on (by decide) (by decide) (Below.refl _ _)⟩)
        · exact step4_plain rfl (by decide) (leaves_actLoad (cs := (⟨xk, xa, xp, xc, xB, xr⟩ : ActV).cells) rfl (.tmp 25) rfl hs.1 hS.cells ⟨rfl, by simpa using hS, actK_on (by decide) (by decide) (Below.refl _ _)⟩)
        · obtain rfl : f2 = true := hf3 (by kernel_rfl)
          have hL := hS.gb1 rfl
          have hd := does_any w.heap.size s F (.agg #[g0, g1]) B H xk xa xp xc xB xr W hL.law.file hL.ref hL.rel ok.ok.aw ok.few (HXB.out W hL.law)
          refine step4_plain rfl (by decide) (leaves_call3 en_does hr (.tmp 21) (.tmp 22) (.tmp 26) _ _ _ rfl hs.1 hs.2.1 hs.2.2.1 ?_)
          refine hd.mono ?_
          rintro e W' ⟨hv, s', F', B', H', rfl, f', r', R', g'⟩
          have hI' : LawI w (some ⟨b, off, none⟩) L s' F' W' := hL.law.goes g' f'
          refine ⟨_, rfl, ⟨hv, rfl, s', F', B', H', hI', ?_, r', R'⟩, ⟨fun i hi v hv => by rw [Nat.add_assoc]; exact hI'.cell hlt2 hi (by rw [hxe]; exact hv), (fun e => by cases e), Nat.le_trans hS.size g'.foot.size, fun e => ?_⟩, .inl rfl⟩
          · obtain ⟨p1, q1, c1, d1, e1, _, _⟩ := hL.ref
            have hg := hL.law.file.1.blk g'.foot hL.gbox (by decide) (by decide)
            injection e1 with e2
            injection e2 with e3
            injection e3 with e4 e5
            injection e5 with e6 e7
            subst e4 e6
            exact ⟨_, _, _, _, _, _, hg⟩
          · obtain ⟨hb', p1, n1, c1, p2, n2, c2', ex, hl, hbk⟩ := hS.box (by simpa using e)
            exact ⟨hb', p1, n1, c1, p2, n2, c2', ex, hl, hL.law.file.1.blk g'.foot hbk (by decide) (by decide)⟩
        · exact step4_plain rfl (by decide) (leaves_move (.tmp 27) rfl ⟨hs.1, by simpa using hS, actK_on (by decide) (by decide) (Below.refl _ _)⟩)
        · obtain ⟨hv, e, hp⟩ := hs.1
          exact step4_plain rfl (by decide) (leaves_extract (.tmp 20) 0 rfl e rfl ⟨hp, by simpa using hS, actK_on (by decide) (by decide) (Below.refl _ _)⟩)
        · obtain ⟨hv, e, hp⟩ := hs.1
          exact step4_plain rfl (by decide) (leaves_extract (.tmp 20) 1 rfl e rfl ⟨rfl, by simpa using hS, actK_on (by decide) (by decide) (Below.refl _ _)⟩)
        · have hb := on_alloc W (.cells #[.slice none 0 0, .slice none 0 0] 28)
          have h7 := hS.on hb
          exact step4_made rfl (leaves_newRef rfl ⟨trivial, ⟨h7.cells, by simpa using h7.gb1, h7.size, fun _ => ⟨W.heap.size, _, _, _, _, _, _, rfl, hS.size, Blk.new W _ [.slice none 0 0, .slice none 0 0]⟩⟩, actK_on (by decide) (by decide) hb⟩)
        · obtain rfl : f = false := hf2 (by kernel_rfl)
          obtain rfl : f2 = false := hf4 (by kernel_rfl)
          obtain ⟨hb', p1, n1, c1, p2, n2, c2', ex, hl, hbk⟩ := hS.box rfl
          have hp : AnsP w b off L gb (ρ (.tmp 28)) W := hs.2.1
          obtain ⟨s', F', B', H', hI', hg', ⟨p3, q3, c3, d3, e3, a3, b3⟩, R'⟩ := hp
          have hbut := but_putL hb' [.slice p3 B'.length c3, .slice q3 H'.length d3] W 0
          have hpt := hbk.put [.slice p3 B'.length c3, .slice q3 H'.length d3] rfl
          have hans : AnsP w b off L gb (.agg #[.slice p3 B'.length c3, .slice q3 H'.length d3]) W := ⟨s', F', B', H', hI', hg', ⟨p3, q3, c3, d3, rfl, a3, b3⟩, R'⟩
          refine step4_plain rfl (by decide) (leaves_put (.tmp 6) (.tmp 28) ⟨_, _, _, rfl⟩ ⟨_, _, _, rfl⟩ rfl ex e3 hbk ⟨⟨hb', _, _, _, _, _, _, ex, hl, hpt, hans.but hbut hbk (by omega) (by omega) (by omega)⟩, ⟨fun i hi v hv => ?_, (fun e => by cases e), by rw [hbut.size]; exact hS.size, fun _ => ⟨hb', _, _, _, _, _, _, ex, hl, hpt⟩⟩, .inr (.inl ⟨rfl, hb', _, _, _, _, _, _, hl, hbk, hbut⟩)⟩)
          have h9 := hS.cells i hi v hv
          rw [← h9]
          simp only [World.cell?, hbut.block b (by omega)]
        · exact step4_plain rfl (by decide) (leaves_assign (.tmp 29) rfl ⟨hs.1, by simpa using hS, actK_on (by decide) (by decide) (Below.refl _ _)⟩)
      case en =>
        intro x f f2 W hf hf2 hS v0 h0 v1 h1 v2 h2 v3 h3 v4 h4 v5 h5 v6 h6 v7 h7 v8 h8 v9 h9 v10 h10 h11 v12 h12 hxe2
        obtain ⟨hb', p1, n1, c1, p2, n2, c2', ex, hlo', hbk, hans⟩ := h11 rfl
        obtain rfl : v12 = .bool true := h12 rfl
        have hv10 : v10 = .pointer (some ⟨hb', 0, none⟩) := by rw [← ex, ← hxe2]; simp [Act.put, Act.eval]
        subst hv10
        have HBK : Hid (Blk W hb' 28 [.slice p1 n1 c1, .slice p2 n2 c2']) := hbk
        obtain ⟨s', F', B', H', hI', ⟨p3, n3, c3, p4, n4, c4, hg'⟩, hr', R'⟩ := hans
        have HI2 : Hid (LawI w (some ⟨b, off, none⟩) L s' F' W) := hI'
        have HGB : Hid (Blk W gb 28 [.slice p3 n3 c3, .slice p4 n4 c4]) := hg'
        have HRF : Hid (RefAt F' W (.agg #[.slice p1 n1 c1, .slice p2 n2 c2']) B' H') := hr'
        have HR2 : Hid (Rel s' B' H') := R'
        have hbb : Hid (gb < hb' ∧ b < hb') := ⟨by omega, by omega⟩
        clear h0 h1 h2 h3 h4 h5 h6 h7 h8 h9 h10 h11 h12 hxe2 ex hf hf2 hS hbk hI' hg' hr' R' HI HCW HXB ok
        simp only [Act.put, List.setIfInBounds_toArray, List.set_cons_succ, List.set_cons_zero]
        have z0 := HBK.out.cell 0 rfl
        have z1 := HBK.out.cell 1 rfl
        have hal : Calls Try.prog 10 #[.pointer (some ⟨w.heap.size, 0, none⟩), .agg #[.slice p1 n1 c1, .slice p2 n2 c2']] W fun e w' => e = .returned (.bool true) ∧ Below W.heap.size W w' := by
          obtain ⟨p5, q5, c5, d5, e5, _, a5⟩ := HRF.out
          rw [e5]
          exact alike_any w.heap.size s' F' p5 q5 c5 d5 B' H' W HI2.out.file HR2.out a5.at
        go_wp2_with fail
        refine hal.mono ?_
        rintro e W2 ⟨rfl, hb2⟩
        clear z0 z1 hal
        have HI3 : Hid (LawI w (some ⟨b, off, none⟩) L s' F' W2) := HI2.out.on hb2
        have HBK2 : Hid (Blk W2 hb' 28 [.slice p1 n1 c1, .slice p2 n2 c2']) := HBK.out.on hb2
        have HGB2 : Hid (Blk W2 gb 28 [.slice p3 n3 c3, .slice p4 n4 c4]) := HGB.out.on hb2
        have HRF2 : Hid (RefAt F' W2 (.agg #[.slice p1 n1 c1, .slice p2 n2 c2']) B' H') := HRF.out.on hb2
        have z0 := HBK2.out.cell 0 rfl
        have z1 := HBK2.out.cell 1 rfl
        have y0 := HGB2.out.cell 0 rfl
        have y1 := HGB2.out.cell 1 rfl
        have fr0 := HGB2.out.free 0
        have fr1 := HGB2.out.free 1
        have HG3 : Hid (LawG w (some ⟨b, off, none⟩) L gb s' F' (.slice p1 n1 c1) (.slice p2 n2 c2') B' H' ((W2.setCell ⟨gb, 0, none⟩ (.slice p1 n1 c1)).setCell ⟨gb, 1, none⟩ (.slice p2 n2 c2'))) := by
          have hbut := but_putL gb [.slice p1 n1 c1, .slice p2 n2 c2'] W2 0
          have hpt := HGB2.out.put [.slice p1 n1 c1, .slice p2 n2 c2'] rfl
          exact ⟨HI3.out.but hbut HGB2.out (by omega) (by have := HG1.out; omega), hpt, HRF2.out.butBlk hbut HGB2.out, HR2.out⟩
        clear HI2 HGB HBK HRF HI3 HGB2 HBK2 HRF2
        go_wp2
        go_roundw
        case rel => exact ⟨k + 1, s', F', _, _, B', H', by omega, by go_num, HG3⟩
        case measure => simp [intOf]; omega
    · obtain rfl : k = N := by omega
      have hltz : ¬ (k : Int) < (k : Int) := by omega
      obtain ⟨pb, qb, cb, db, eg, _, _⟩ := HI.out.ref
      injection eg with eg2
      injection eg2 with eg3
      injection eg3 with eg4 eg5
      injection eg5 with eg6 _
      subst eg4 eg6
      go_wp2
      refine wp_region_left (S := LawG w q L gb s F (.slice pb B.length cb) (.slice qb H.length db) B H) (Keep := KeepK [])
        (g := fun j v W => ([Kd.is (.pointer (some ⟨w.heap.size, 0, none⟩)), .is (.pointer (some ⟨gb, 0, none⟩)), .is (.slice pb B.length cb), .is (.int .i64 (B.length : Nat)), .sl2 B, .is (.string ⟨B.toArray⟩), .is (.pointer (some ⟨gb, 0, none⟩)), .is (.slice pb B.length cb), .is (.string ⟨B.toArray⟩), .is (.bool true), .is (.bool true), .is (.bool true), .is (.bool true), .is (.bool true)].getD j (Kd.any (hi := 0))).ok v W)
        (tab := [[(3, none)], [(4, none)], [(40, some 1)], [(41, some 2)], [(39, some 0), (42, some 3)], [(43, some 4)], [(4, none)], [(45, some 6)], [(46, some 7)], [(44, some 5), (47, some 8)], [(48, some 9)], [(49, some 10)], [(49, some 10), (50, some 11)], [(51, some 12)]]) (tl := []) (n := 52)
        (by kernel_rfl) rfl (by kernel_rfl) keep_none (HI.out.on (on_drew (Below.refl _ _))) ?st ?en
      case st =>
        refine ⟨fun ρ W hr hS hs => ?_, fun ρ W hr hS hs => ?_, fun ρ W hr hS hs => ?_, fun ρ W hr hS hs => ?_, fun ρ W hr hS hs => ?_, fun ρ W hr hS hs => ?_, fun ρ W hr hS hs => ?_, fun ρ W hr hS hs => ?_, fun ρ W hr hS hs => ?_, fun ρ W hr hS hs => ?_, fun ρ W hr hS hs => ?_, fun ρ W hr hS hs => ?_, fun ρ W hr hS hs => ?_, fun ρ W hr hS hs => ?_, trivial⟩
        · exact step_plain rfl (leaves_move (.tmp 3) rfl ⟨hs.1, hS, Below.refl _ _⟩)
        · exact step_plain rfl (leaves_field (.tmp 4) rfl (by decide) hs.1 ⟨rfl, hS, Below.refl _ _⟩)
        · exact step_plain rfl (leaves_cell Try.isAgg25 (.tmp 40) rfl hs.1 (hS.gbox.cell 0 rfl) ⟨rfl, hS, Below.refl _ _⟩)
        · exact step_plain rfl (leaves_lenB (.tmp 41) rfl hs.1 ⟨rfl, hS, Below.refl _ _⟩)
        · refine step_plain rfl (leaves_call3 en_read hr (.tmp 39) _ (.tmp 42) _ _ _ rfl hs.1 (hr.const _) hs.2.1 ?_)
          have hrd := read_any (.pointer (some ⟨w.heap.size, 0, none⟩)) s.sz s.C s.h 0 (B.length : Nat) W (.inr ⟨_, F, rfl, hS.law.file.1⟩) hS.law.file.2
          rw [readF_all hS.rel] at hrd
          refine hrd.mono ?_
          rintro e W' ⟨p7, c7, rfl, hat7, _, hb7⟩
          exact ⟨_, rfl, ⟨p7, c7, rfl, hat7.at⟩, hS.on hb7, hb7⟩
        · obtain ⟨p7, c7, e7, hat7⟩ := hs.1
          exact step_plain rfl (leaves_text (.tmp 43) rfl e7 (by have := hS.rel.lenB; omega) hat7 ⟨rfl, hS, Below.refl _ _⟩)
        · exact step_plain rfl (leaves_field (.tmp 4) rfl (by decide) hs.1 ⟨rfl, hS, Below.refl _ _⟩)
        · exact step_plain rfl (leaves_cell Try.isAgg25 (.tmp 45) rfl hs.1 (hS.gbox.cell 0 rfl) ⟨rfl, hS, Below.refl _ _⟩)
        · exact step_plain rfl (leaves_text (.tmp 46) rfl hs.1 (by have := hS.rel.lenB; omega) (refAt_b hS.ref) ⟨rfl, hS, Below.refl _ _⟩)
        · exact step_plain rfl (leaves_eqlS (.tmp 44) (.tmp 47) rfl hs.1 hs.2.1 ⟨rfl, hS, Below.refl _ _⟩)
        · exact step_plain rfl (leaves_move (.tmp 48) rfl ⟨hs.1, hS, Below.refl _ _⟩)
        · refine step_want rfl rfl hs.1 (leaves_call0 en_lives hr rfl ?_)
          refine (lives_any W).mono ?_
          rintro e W' ⟨rfl, hb7⟩
          exact ⟨_, rfl, rfl, hS.on hb7, hb7⟩
        · exact step_plain rfl (leaves_pick (.tmp 49) (.tmp 50) _ rfl true hs.1 ⟨hs.2.1, hS, Below.refl _ _⟩)
        · exact step_plain rfl (leaves_assign (.tmp 51) rfl ⟨hs.1, hS, Below.refl _ _⟩)
      case en =>
        intro W hS v0 h0 v1 h1 v2 h2 v3 h3 v4 h4 v5 h5 v6 h6 v7 h7 v8 h8 v9 h9 v10 h10 v11 h11 v12 h12 v13 h13
        obtain rfl := h13 rfl
        have HB : Hid (Below w.heap.size w W) := hS.law.below
        clear h0 h1 h2 h3 h4 h5 h6 h7 h8 h9 h10 h11 h12 h13 hS HI
        simp only [ends, Act.put, List.setIfInBounds_toArray, List.set_cons_succ, List.set_cons_zero]
        go_wp2
        go_ret
        exact ⟨rfl, HB.out⟩

end Go.Proofs.Ytigkelcmiknfjaa
