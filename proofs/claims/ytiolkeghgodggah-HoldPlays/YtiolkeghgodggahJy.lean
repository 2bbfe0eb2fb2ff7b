/-
  The document's orders, one by one.
-/
import Derived.Test.YtiolkeghgodggahJx
import Derived.Test.YtiolkeghgodggahAp
namespace Go.Proofs.Ytiolkeghgodggah.Hd
open Go.RowKit Go.Shelf

/-- A rack, and what was told, in memory. -/
structure HI (w wx : World) (R : Nat) (vc vl vo : Value) (r : Plain.Rk) (s : List Plain.St) (k : Nat) : Prop where
  rk : RkI w.heap.size wx R vc vl r
  ow : wx.ownsRow w.heap.size 36 5 vo k (encS.vals s)
  be : Below w.heap.size w wx
namespace HI
variable {w wx wy : World} {R : Nat} {vc vl vo : Value} {r r' : Plain.Rk} {s : List Plain.St} {k : Nat}
theorem start (w : World) : HI w (w.alloc (.cells #[.int .i64 0, .int .i64 0, .slice none 0 0, .slice none 0 0] 54)) w.heap.size (.slice none 0 0) (.slice none 0 0) (.slice none 0 0) Plain.Rk.nil [] 0 := by
  refine ⟨⟨World.rowIs_alloc w _ 54 _ fun i hi => ?_, World.ownsRow_nil _ _ _ _, World.ownsRow_nil _ _ _ _, .inl rfl, Nat.le_refl _⟩, World.ownsRow_nil _ _ _ _, (Below.refl _ _).alloc (Nat.le_refl _) _⟩
  have hi4 : i < 4 := hi
  have : i = 0 ∨ i = 1 ∨ i = 2 ∨ i = 3 := by omega
  rcases this with rfl | rfl | rfl | rfl <;> rfl
theorem grow (h : HI w wx R vc vl vo r s k) (g : Below wx.heap.size wx wy) : HI w wy R vc vl vo r s k :=
  ⟨h.rk.grow g, owns_grow h.ow g, h.be.trans (g.mono h.be.size)⟩
/-- Behind an order. -/
theorem order {vc' vl' : Value} (h : HI w wx R vc vl vo r s k) (rk : RkI w.heap.size wy R vc' vl' r') (on : Only wx wy (Mine R vc vl)) : HI w wy R vc' vl' vo r' s k := by
  refine ⟨rk, owns_block h.ow fun b hb => on.block b (h.ow.lt b hb).2 ?_, h.be.trans (on.below h.be.size h.rk.mine)⟩
  rintro (e | e | e)
  · exact row_owns_ne h.rk.row h.ow (by decide) (by rw [hb, e])
  · exact owns_apart h.ow h.rk.oc (by decide) hb e
  · exact owns_apart h.ow h.rk.ol (by decide) hb e
/-- What is told is appended. -/
theorem told (h : HI w wx R vc vl vo r s k) (hs : s.length = k) (hk : k ≤ 1000) (t : Plain.St) :
    ∃ p c U, (Builtin.append_ #[31, 31] 31 #[vo, .slice (some ⟨wx.heap.size, 0, none⟩) 1 1]).run Try.prog (wx.alloc (.cells #[.int .i64 (t.code : Nat), .int .i64 t.id, .int .i64 t.free, .int .i64 t.held, .int .i64 t.used] 36)) = .ok (.slice p (k + 1) c) U ∧
      HI w U R vc vl (.slice p (k + 1) c) r (s ++ [t]) (k + 1) := by
  obtain ⟨j0, ji, jz0, jz1, jz2⟩ := info_parts Try.infoStock
  have bel : Below wx.heap.size wx (wx.alloc (.cells #[.int .i64 (t.code : Nat), .int .i64 t.id, .int .i64 t.free, .int .i64 t.held, .int .i64 t.used] 36)) := (Below.refl _ _).alloc (Nat.le_refl _) _
  have h1 := h.grow bel
  have hone : encS.Holds (wx.alloc (.cells #[.int .i64 (t.code : Nat), .int .i64 t.id, .int .i64 t.free, .int .i64 t.held, .int .i64 t.used] 36)) (some ⟨wx.heap.size, 0, none⟩) [t] := Enc.one_holds (E := encS) wx t 36
  obtain ⟨v', U, e1, e2, e3⟩ := Enc.app (E := encS) (m := 1) (c := 1) Try.underlying31 ji jz0 jz1 jz2 rfl h1.ow hone rfl (fun e => by cases e) (by omega) (by omega) h1.be.size
  obtain ⟨p, c, rfl, _⟩ := Enc.owns e2 (by simp [hs])
  refine ⟨p, c, U, e1, ⟨?_, e2, h1.be.grown e3 h1.be.size (fun j hj => (h1.ow.lt j hj).1)⟩⟩
  refine ⟨h1.rk.row.of_block (e3.block _ h1.rk.row.lt (fun e => row_owns_ne h1.rk.row h1.ow (by decide) e.symm)), h1.rk.oc.kept e3 ?_, h1.rk.ol.kept e3 ?_, h1.rk.ap, h1.rk.ge⟩
  · cases hv : vc.ownBlock with
    | none => exact .inl rfl
    | some b => exact .inr (fun e => owns_apart h1.rk.oc h1.ow (by decide) hv e.symm)
  · cases hv : vl.ownBlock with
    | none => exact .inl rfl
    | some b => exact .inr (fun e => owns_apart h1.rk.ol h1.ow (by decide) hv e.symm)
end HI

set_option maxHeartbeats 4000000 in
set_option maxRecDepth 100000 in
theorem rplay_c (p : Option Addr) (n cap : Nat) (l : List Plain.Or) (hin : ∀ j, j < l.length → InO (l.getD j default)) (hbig : n ≤ 9223372036854775807) (w : World) (hn : l.length = n) (hp : encO.Holds w p l) :
    Calls Try.prog 14 #[.slice p n cap] w fun e w' => ∃ q c, e = .returned (.tuple #[.slice q (Plain.holdV l).length c, .int .i64 (Plain.holdE l : Nat)]) ∧ encS.Holds w' q (Plain.holdV l) ∧ Below w.heap.size w w' ∧ (∀ a, q = some a → 0 < (Plain.holdV l).length → w.heap.size ≤ a.block) := by
  unfold Plain.holdV Plain.holdE
  rw [hn]
  by_cases h300 : 300 < n
  · have hz : (300 : Int) < (n : Int) := by omega
    rw [if_pos h300, if_pos h300]
    go_enter Try.func14, Try.ntmps14
    go_wp2
    go_ret2
    exact ⟨none, 0, rfl, Enc.Holds.nil _ _, Below.refl _ _, fun a e => by cases e⟩
  have hz : ¬ (300 : Int) < (n : Int) := by omega
  rw [if_neg h300, if_neg h300]
  have HP := hid hp
  have HN := hid hn
  have HIN := hid hin
  have ST := hid (HI.start w)
  clear hp hn hin
  go_enter Try.func14, Try.ntmps14
  go_wp2
  go_loopg [5, 15] n (fun gg s5 s15 wx => ∃ (k : Nat) (vo : Value), k ≤ n ∧ n - k ≤ gg ∧ s15 = .int .i64 k ∧ s5 = vo ∧ Aside (∃ vc vl, HI w wx w.heap.size vc vl vo (Plain.runF Plain.Rk.nil (l.take k)) (Plain.playF Plain.Rk.nil (l.take k)) k))
  case atStart => exact ⟨0, _, Nat.zero_le _, by omega, rfl, rfl, (show Aside _ from ⟨_, _, ST.out⟩)⟩
  case round =>
    obtain ⟨k, vo, hkk, hg, rfl, rfl, A⟩ := hrel
    clear ST
    by_cases hlt : k < n
    · have hltz : (k : Int) < (n : Int) := by omega
      have hll : k < l.length := by rw [HN.out]; exact hlt
      obtain ⟨vc, vl, hi⟩ := A.out
      have HI0 := hid hi
      clear hi
      obtain ⟨b, off, rfl, hb, hc⟩ := holdsO (HP.out.grow (show Below w.heap.size w wr from HI0.out.be)) (by omega)
      obtain ⟨c0, c1, c2, c3⟩ := hc k hll
      clear hc
      have io := HIN.out k hll
      have RT := hid (Plain.runF_take Plain.Rk.nil l k hll)
      have PT := hid (Plain.playF_take Plain.Rk.nil l k hll)
      have hmd := Plain.made_take l k
      have hv := Plain.Hv.nil.run (l.take k)
      have hs : (Plain.playF Plain.Rk.nil (l.take k)).length = k := by rw [Plain.playF_len, List.length_take]; omega
      obtain ⟨o, ho⟩ : ∃ o, o = l.getD k default := ⟨_, rfl⟩
      rw [← ho] at c0 c1 c2 c3 io RT PT
      clear ho
      generalize Plain.runF Plain.Rk.nil (l.take k) = r at HI0 RT PT hmd hv
      generalize Plain.playF Plain.Rk.nil (l.take k) = s at HI0 PT hs
      have HIa := hid (HI0.out.grow (wy := wr.alloc (boxO o)) ((Below.refl _ _).alloc (Nat.le_refl _) _))
      have K := order_c w.heap.size w.heap.size vc vl r _ hv (by omega) o io (wr.alloc (boxO o)) HIa.out.rk
      obtain ⟨po, co, eo, _⟩ := Enc.owns (E := encS) HI0.out.ow hs
      rw [eo] at HI0 HIa
      subst eo
      clear hv io A
      go_wp2_with fail
      refine K.mono ?_
      rintro e W3 ⟨rfl, ⟨vc', vl', rk⟩, on⟩
      obtain ⟨p', c', U, hrun, hi2⟩ := (HIa.out.order rk on).told hs (by omega) (Plain.toldR r o)
      have HRUN := hid hrun
      have HI2 := hid hi2
      clear rk on hrun hi2 K HIa HI0
      generalize Plain.toldR r o = t at *
      go_wp2_with (first | (at_builtin; refine wpList_app _ _ 31 HRUN.out (by rfl) (by rfl) (by rfl) (by rfl) (by rfl) ?_) | fail)
      go_wp2
      go_roundg (n - (k + 1))
      case measure => omega
      case rel =>
        refine ⟨k + 1, _, by omega, by omega, by go_num, rfl, (show Aside _ from ⟨vc', vl', ?_⟩)⟩
        rw [RT.out, PT.out]
        exact HI2.out
    · have hltz : ¬ (k : Int) < (n : Int) := by omega
      have ek : k = n := by omega
      have hall : l.take k = l := List.take_of_length_le (by rw [HN.out]; omega)
      obtain ⟨vc, vl, hi⟩ := A.out
      rw [hall] at hi
      obtain ⟨po, co, eo, hh, hx1, hfr⟩ := Enc.owns (E := encS) hi.ow (by rw [Plain.playF_len, HN.out, ek])
      clear hx1
      have FR := hid (show ∀ a, po = some a → 0 < (Plain.playF Plain.Rk.nil l).length → w.heap.size ≤ a.block from fun a ha h0 => by
        rw [Plain.playF_len, HN.out, ← ek] at h0
        obtain ⟨g, hg, hge⟩ := hfr h0
        rw [ha] at hg
        injection hg with hg
        rw [hg]; exact hge)
      clear hfr
      have F := hid (And.intro hh hi.be)
      subst eo
      clear hi hh A
      go_wp2
      go_ret2
      refine ⟨po, ⟨co, ?_⟩, F.out.1, F.out.2, FR.out⟩
      rw [Plain.playF_len, HN.out, ← ek]
      rfl
end Go.Proofs.Ytiolkeghgodggah.Hd
