/-
  Contracts of stocked and shelfSure.
-/
import Derived.Test.YtiolkeghgodggahJz
import Derived.Test.YtiolkeghgodggahJ2
namespace Go.Proofs.Ytiolkeghgodggah.Hd
open Go.RowKit Go.Shelf

set_option maxHeartbeats 2000000 in
/-- stocked: what is told of orders, copied first. -/
theorem stocked_c (p : Option Addr) (n c : Nat) (l : List Plain.Or) (hin : ∀ j, j < l.length → InO (l.getD j default)) (h300 : n ≤ 300) (w : World) (hn : l.length = n) (hp : encO.Holds w p l) (hnil : p = none → c = 0) :
    Calls Try.prog 16 #[.slice p n c] w fun e w' => ∃ q c', e = .returned (.tuple #[.slice q n c', .bool true]) ∧ encS.Holds w' q (Plain.playF Plain.Rk.nil l) ∧ Below w.heap.size w w' ∧ (∀ a, q = some a → 0 < n → w.heap.size ≤ a.block) := by
  obtain ⟨j0, ji, jz0, jz1, jz2⟩ := info_parts Try.infoOrder
  obtain ⟨v', W1, hrun, hown, hgrow⟩ := Enc.app (E := encO) (l := []) (n := 0) (m := n) (c := c) Try.underlying30 ji jz0 jz1 jz2 rfl (World.ownsRow_nil w w.heap.size 44 4) hp hn hnil (by omega) (by omega) (Nat.le_refl _)
  rw [List.nil_append, Nat.zero_add] at hown
  obtain ⟨p', c', rfl, hp', _⟩ := Enc.owns hown hn
  have bel : Below w.heap.size w W1 := (Below.refl _ _).grown hgrow (Nat.le_refl _) (fun k hk => by simp [Value.ownBlock] at hk)
  have K := play_c p' n c' l hin (by omega) W1 hn hp'
  have hV : Plain.holdV l = Plain.playF Plain.Rk.nil l := by unfold Plain.holdV; rw [if_neg (by omega)]
  have hE : Plain.holdE l = 0 := by unfold Plain.holdE; rw [if_neg (by omega)]
  rw [hV, hE, Plain.playF_len, hn] at K
  have HB := hid bel
  have HR := hid hrun
  clear hp hp' hown hgrow bel hnil hrun hn hV hE hin jz0 jz1 jz2 ji
  generalize Plain.playF Plain.Rk.nil l = V at *
  go_enter Try.func16, Try.ntmps16
  go_wp2_with (first | (at_builtin; refine wpList_app _ _ 30 HR.out (by rfl) (by rfl) (by rfl) (by rfl) (by rfl) ?_) | fail)
  refine K.mono ?_
  rintro e w' ⟨q, cq, rfl, hh, hb, hf⟩
  have RF := hid hf
  clear hf
  have R1 := hid hh
  have R3 := hid hb
  clear hh hb K
  go_wp2
  go_ret2
  exact ⟨q, cq, rfl, R1.out, HB.out.trans (R3.out.mono HB.out.size), fun a ha h0 => Nat.le_trans HB.out.size (RF.out a ha h0)⟩

theorem Try.infoBool : (Try.prog.info? 4).map (fun i => (i.zero, i.size, i.bytes)) = some (some (.bool false), 1, 1) := by kernel_rfl
theorem CellS.below {w w' : World} {b o B : Nat} {d : Plain.St} (h : CellS w b o d) (g : Below B w w') (hlt : b < B) : CellS w' b o d :=
  ⟨(g.cell (p := ⟨b, o, none⟩) hlt).trans h.c0, (g.cell (p := ⟨b, o + 1, none⟩) hlt).trans h.c1, (g.cell (p := ⟨b, o + 2, none⟩) hlt).trans h.c2, (g.cell (p := ⟨b, o + 3, none⟩) hlt).trans h.c3, (g.cell (p := ⟨b, o + 4, none⟩) hlt).trans h.c4⟩
theorem two_holds (w : World) (a b : Plain.Or) : encO.Holds (w.alloc (.cells #[.int .i64 a.kind, .int .i64 a.count, .int .i64 a.life, .int .i64 a.id, .int .i64 b.kind, .int .i64 b.count, .int .i64 b.life, .int .i64 b.id] 44)) (some ⟨w.heap.size, 0, none⟩) [a, b] := fun _ => by
  refine ⟨w.heap.size, 0, rfl, by simp, fun j u hu => ?_⟩
  rw [World.cell?_alloc_at _ _ _ _ (by rfl), Nat.zero_add]
  rw [show encO.vals [a, b] = [.int .i64 a.kind, .int .i64 a.count, .int .i64 a.life, .int .i64 a.id, .int .i64 b.kind, .int .i64 b.count, .int .i64 b.life, .int .i64 b.id] from rfl] at hu
  rw [← Array.getElem?_toList]
  exact hu
namespace Plain
theorem sure : playF Rk.nil [⟨1, 5, 0, 0⟩, ⟨3, 2, 1, 0⟩] = [⟨0, 0, 5, 0, 0⟩, ⟨0, 1, 3, 2, 0⟩] := by decide
end Plain

set_option maxHeartbeats 2000000 in
theorem shelfSure_c (w : World) : Calls Try.prog 17 #[] w fun e w' => e = .returned (.bool true) ∧ Below w.heap.size w w' := by
  have hin : ∀ j, j < [(⟨1, 5, 0, 0⟩ : Plain.Or), ⟨3, 2, 1, 0⟩].length → InO ([(⟨1, 5, 0, 0⟩ : Plain.Or), ⟨3, 2, 1, 0⟩].getD j default) := fun j hj => by
    have hj2 : j < 2 := hj
    have : j = 0 ∨ j = 1 := by omega
    rcases this with rfl | rfl
    · exact ⟨⟨by decide, by decide⟩, ⟨by decide, by decide⟩, ⟨by decide, by decide⟩, ⟨by decide, by decide⟩⟩
    · exact ⟨⟨by decide, by decide⟩, ⟨by decide, by decide⟩, ⟨by decide, by decide⟩, ⟨by decide, by decide⟩⟩
  have K := stocked_c (some ⟨w.heap.size, 0, none⟩) 2 2 [⟨1, 5, 0, 0⟩, ⟨3, 2, 1, 0⟩] hin (by omega) _ rfl (two_holds w ⟨1, 5, 0, 0⟩ ⟨3, 2, 1, 0⟩) (fun e => by cases e)
  rw [Plain.sure] at K
  dsimp only at K
  clear hin
  go_enter Try.func17, Try.ntmps17
  go_wp2_with fail
  refine K.mono ?_
  rintro e W1 ⟨q, c, rfl, hh, hb, hx⟩
  clear hx
  obtain ⟨b, off, rfl, _, hc⟩ := holdsS hh (by decide)
  obtain ⟨_, c1, c2, c3, _⟩ := hc 1 (by decide)
  have HB := hid (((Below.refl w.heap.size w).alloc (Nat.le_refl _) (.cells #[.int .i64 1, .int .i64 5, .int .i64 0, .int .i64 0, .int .i64 3, .int .i64 2, .int .i64 1, .int .i64 0] 44)).trans (hb.mono (by simp)))
  clear hh hb hc K
  go_wp2
  go_ret
  exact ⟨rfl, HB.out⟩
end Go.Proofs.Ytiolkeghgodggah.Hd
