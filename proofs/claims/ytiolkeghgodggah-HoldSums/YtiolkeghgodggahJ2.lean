/-
  Contracts of OrderOf, ordersOf.
-/
import Derived.Test.YtiolkeghgodggahJ1
import Derived.Test.YtiolkeghgodggahJk
import Derived.Test.YtiolkeghgodggahPk
import Derived.Test.YtiolkeghgodggahAp
import Derived.Deep.RegionHeld3
namespace Go.Proofs.Ytiolkeghgodggah.Hd
open Go.RowKit Go.Shelf

namespace Plain
/-- The order that OrderOf makes of a wish. -/
def ordOf (o : Or) : Or := ⟨1 + o.kind % 7, 1 + o.count % 9, 1 + o.life % 5, 1 + o.id % 9⟩
/-- The orders of the first m wishes. -/
def ordsOf (l : List Or) (m : Nat) : List Or := (l.take m).map ordOf
theorem ordsOf_len (l : List Or) (m : Nat) : (ordsOf l m).length ≤ m := by simp [ordsOf]; omega
theorem ordsOf_in (l : List Or) (m : Nat) : ∀ o, o ∈ ordsOf l m → (1 ≤ o.kind ∧ o.kind ≤ 7) ∧ (1 ≤ o.count ∧ o.count ≤ 9) ∧ (1 ≤ o.life ∧ o.life ≤ 5) ∧ (1 ≤ o.id ∧ o.id ≤ 9) := by
  intro o ho
  obtain ⟨x, _, rfl⟩ := List.mem_map.1 ho
  unfold ordOf
  dsimp only
  omega
theorem ordsOf_step (l : List Or) (m k : Nat) (h : k < l.length) (h2 : k < m) : ordsOf (l.take (k + 1)) m = ordsOf (l.take k) m ++ [ordOf (l.getD k default)] := by
  unfold ordsOf
  rw [List.take_take, List.take_take, show min m (k + 1) = k + 1 by omega, show min m k = k by omega, List.take_succ_eq_append_getElem h, List.map_append]
  simp [h]
theorem ordsOf_take (l : List Or) (m k : Nat) (h : l.length ≤ k ∨ m ≤ k) : ordsOf (l.take k) m = ordsOf l m := by
  unfold ordsOf
  rcases h with h | h
  · rw [List.take_of_length_le h]
  · rw [List.take_take, show min m k = m by omega]
theorem ordsOf_lenk (l : List Or) (m k : Nat) (h1 : k ≤ l.length) (h2 : k ≤ m) : (ordsOf (l.take k) m).length = k := by simp [ordsOf]; omega
end Plain
theorem owns_below' {w w' : World} {B e s n : Nat} {v : Value} {xs : List Value} (h : w.ownsRow B e s v n xs) (g : Below w.heap.size w w') : w'.ownsRow B e s v n xs :=
  h.kept (row := none) ⟨g.os, g.tape, g.output, g.size, fun k hk _ => g.block k hk⟩ (by cases hv : v.ownBlock <;> simp)
theorem bodyPost_cellO {fn : Func} {p : Tmp} {Q : Ending → World → Prop} {a : Act} {w : World} (h : fn.results = #[.cell p 44]) (G : Nat) (x0 x1 x2 x3 : Value) (hp : a.tmps.getD p undef = .pointer (some ⟨G, 0, none⟩))
    (hg : w.heap[G]? = some (.cells #[x0, x1, x2, x3] 44 (0, 0))) (hd : a.defers = []) (hR : Q (.returned (.agg #[x0, x1, x2, x3])) w) : bodyPost Try.prog fn Q .ret a w :=
  bodyPost_ret (results_cell_row (P := Try.prog) h _ _ G 44 _ (0, 0) _ hp hg Try.underlying44 rfl (by kernel_rfl)) hd hR

set_option maxHeartbeats 4000000 in
set_option maxRecDepth 100000 in
theorem orderOf_c (o : Plain.Or) (io : InO o) (w : World) :
    Calls Try.prog 21 #[aggO o] w fun e w' => e = .returned (aggO (Plain.ordOf o)) ∧ Below w.heap.size w w' := by
  obtain ⟨k, c, l, i⟩ := o
  have K0 := fun W => picked_any k 7 io.k.1 io.k.2 (by omega) (by omega) W
  have K1 := fun W => picked_any c 9 io.c.1 io.c.2 (by omega) (by omega) W
  have K2 := fun W => picked_any l 5 io.l.1 io.l.2 (by omega) (by omega) W
  have K3 := fun W => picked_any i 9 io.i.1 io.i.2 (by omega) (by omega) W
  have HE := hid (show Plain.ordOf ⟨k, c, l, i⟩ = ⟨1 + k % 7, 1 + c % 9, 1 + l % 5, 1 + i % 9⟩ from rfl)
  have b0 : 0 ≤ k % 7 ∧ k % 7 < 7 := by omega
  have b1 : 0 ≤ c % 9 ∧ c % 9 < 9 := by omega
  have b2 : 0 ≤ l % 5 ∧ l % 5 < 5 := by omega
  have b3 : 0 ≤ i % 9 ∧ i % 9 < 9 := by omega
  clear io
  generalize k % 7 = k' at K0 HE b0
  generalize c % 9 = c' at K1 HE b1
  generalize l % 5 = l' at K2 HE b2
  generalize i % 9 = i' at K3 HE b3
  obtain ⟨k2, hk2⟩ : ∃ x, x = 1 + k' := ⟨_, rfl⟩
  obtain ⟨c2, hc2⟩ : ∃ x, x = 1 + c' := ⟨_, rfl⟩
  obtain ⟨l2, hl2⟩ : ∃ x, x = 1 + l' := ⟨_, rfl⟩
  obtain ⟨i2, hi2⟩ : ∃ x, x = 1 + i' := ⟨_, rfl⟩
  have w0 : IntKind.i64.wrap (1 + k') = k2 := by rw [hk2, IntKind.wrap_i64]; omega
  have w1 : IntKind.i64.wrap (1 + c') = c2 := by rw [hc2, IntKind.wrap_i64]; omega
  have w2 : IntKind.i64.wrap (1 + l') = l2 := by rw [hl2, IntKind.wrap_i64]; omega
  have w3 : IntKind.i64.wrap (1 + i') = i2 := by rw [hi2, IntKind.wrap_i64]; omega
  rw [← hk2, ← hc2, ← hl2, ← hi2] at HE
  clear b0 b1 b2 b3 hk2 hc2 hl2 hi2
  go_enter Try.func21, Try.ntmps21
  go_wp2
  go_region_held3 (fun w' => w'.cell? ⟨w.heap.size, 0, none⟩ = some (.int .i64 k) ∧ w'.cell? ⟨w.heap.size, 1, none⟩ = some (.int .i64 c) ∧ w'.cell? ⟨w.heap.size, 2, none⟩ = some (.int .i64 l) ∧ w'.cell? ⟨w.heap.size, 3, none⟩ = some (.int .i64 i)) (go_keep)
    (first | (go_at_call_of 10 (Value.int .i64 k); refine (K0 _).mono ?_; rintro e w' ⟨rfl, rfl⟩) | (go_at_call_of 10 (Value.int .i64 c); refine (K1 _).mono ?_; rintro e w' ⟨rfl, rfl⟩) | (go_at_call_of 10 (Value.int .i64 l); refine (K2 _).mono ?_; rintro e w' ⟨rfl, rfl⟩) | (go_at_call_of 10 (Value.int .i64 i); refine (K3 _).mono ?_; rintro e w' ⟨rfl, rfl⟩))
  all_goals
    go_wp2
    (try simp only [Exit.inBlock, Exit.then])
    refine bodyPost_cellO rfl (w.heap.size + 1) _ _ _ _ rfl ?_ rfl ⟨by rw [HE.out], (((Below.refl _ _).alloc (Nat.le_refl _) _).alloc (by simp) _).drew⟩
    have := Deep.blk_alloc_new (w.alloc (.cells #[.int .i64 k, .int .i64 c, .int .i64 l, .int .i64 i] 56)) (.cells #[.int .i64 k2, .int .i64 c2, .int .i64 l2, .int .i64 i2] 44)
    rw [show (w.alloc (.cells #[.int .i64 k, .int .i64 c, .int .i64 l, .int .i64 i] 56)).heap.size = w.heap.size + 1 by simp] at this
    exact this

theorem Try.infoOrder : (Try.prog.info? 44).map (fun i => (i.zero, i.size, i.bytes)) = some (some (.agg #[.int .i64 0, .int .i64 0, .int .i64 0, .int .i64 0]), 4, 32) := by kernel_rfl
/-- One order more, onto a row of orders of its own. -/
theorem app_order {w wx : World} {vo : Value} {s : List Plain.Or} {k : Nat} (own : wx.ownsRow w.heap.size 44 4 vo k (encO.vals s)) (be : Below w.heap.size w wx) (hs : s.length = k) (hk : k ≤ 1000) (t : Plain.Or) :
    ∃ p c U, (Builtin.append_ #[30, 30] 30 #[vo, .slice (some ⟨wx.heap.size, 0, none⟩) 1 1]).run Try.prog (wx.alloc (.cells #[.int .i64 t.kind, .int .i64 t.count, .int .i64 t.life, .int .i64 t.id] 44)) = .ok (.slice p (k + 1) c) U ∧
      U.ownsRow w.heap.size 44 4 (.slice p (k + 1) c) (k + 1) (encO.vals (s ++ [t])) ∧ Below w.heap.size w U ∧ (wx.alloc (.cells #[.int .i64 t.kind, .int .i64 t.count, .int .i64 t.life, .int .i64 t.id] 44)).grownBy U vo.ownBlock := by
  obtain ⟨j0, ji, jz0, jz1, jz2⟩ := info_parts Try.infoOrder
  have hone : encO.Holds (wx.alloc (.cells #[.int .i64 t.kind, .int .i64 t.count, .int .i64 t.life, .int .i64 t.id] 44)) (some ⟨wx.heap.size, 0, none⟩) [t] := Enc.one_holds (E := encO) wx t 44
  have hge := be.size
  obtain ⟨v', U, e1, e2, e3⟩ := Enc.app (E := encO) (m := 1) (c := 1) Try.underlying30 ji jz0 jz1 jz2 rfl (own.alloc _) hone rfl (fun e => by cases e) (by omega) (by omega) (by simp; omega)
  obtain ⟨p, c, rfl, _⟩ := Enc.owns e2 (by simp [hs])
  exact ⟨p, c, U, e1, e2, (be.alloc hge _).grown e3 (by simp; omega) (fun j hj => (own.lt j hj).1), e3⟩

set_option maxHeartbeats 4000000 in
set_option maxRecDepth 100000 in
theorem ordersOf_c (p : Option Addr) (n cap : Nat) (l : List Plain.Or) (hin : ∀ j, j < l.length → InO (l.getD j default)) (hbig : n ≤ 9223372036854775807) (m : Nat) (hm : m ≤ 300) (w : World) (hn : l.length = n) (hp : encO.Holds w p l) :
    Calls Try.prog 15 #[.slice p n cap, .int .i64 m] w fun e w' => ∃ r, e = .returned r ∧ w'.ownsRow w.heap.size 44 4 r (Plain.ordsOf l m).length (encO.vals (Plain.ordsOf l m)) ∧ Below w.heap.size w w' := by
  have HP := hid hp
  have HN := hid hn
  have HIN := hid hin
  clear hp hn hin
  go_enter Try.func15, Try.ntmps15
  go_wp2
  go_loopg [5, 6] m (fun gg s5 s6 wx => ∃ (k : Nat) (vo : Value), k ≤ n ∧ k ≤ m ∧ m - k ≤ gg ∧ s6 = .int .i64 k ∧ s5 = vo ∧ Aside (wx.ownsRow w.heap.size 44 4 vo k (encO.vals (Plain.ordsOf (l.take k) m)) ∧ Below w.heap.size w wx))
  case atStart => exact ⟨0, _, Nat.zero_le _, Nat.zero_le _, by omega, rfl, rfl, (show Aside _ from ⟨by rw [List.take_zero, show Plain.ordsOf [] m = [] by simp [Plain.ordsOf]]; exact World.ownsRow_nil _ _ _ _, Below.refl _ _⟩)⟩
  case round =>
    obtain ⟨k, vo, hk1, hk2, hg, rfl, rfl, A⟩ := hrel
    by_cases hlt : k < n ∧ k < m
    · obtain ⟨hlt1, hlt2⟩ := hlt
      have hltz : (k : Int) < (n : Int) := by omega
      have hltm : (k : Int) < (m : Int) := by omega
      have hll : k < l.length := by rw [HN.out]; exact hlt1
      obtain ⟨b, off, rfl, hb, hc⟩ := holdsO (HP.out.grow A.out.2) (by omega)
      obtain ⟨c0, c1, c2, c3⟩ := hc k hll
      clear hc
      have io := HIN.out k hll
      have ST := hid (Plain.ordsOf_step l m k hll hlt2)
      have hs := Plain.ordsOf_lenk l m k (by omega) hk2
      obtain ⟨o, ho⟩ : ∃ o, o = l.getD k default := ⟨_, rfl⟩
      rw [← ho] at c0 c1 c2 c3 io ST
      clear ho
      generalize Plain.ordsOf (l.take k) m = s at A ST hs
      have K := orderOf_c o io wr
      obtain ⟨po, co, eo, _⟩ := Enc.owns (E := encO) A.out.1 hs
      have OW := hid A.out
      rw [eo] at OW
      subst eo
      clear A io
      go_wp2_with fail
      refine K.mono ?_
      rintro e W3 ⟨rfl, b3⟩
      obtain ⟨p', c', U, hrun, ow2, be2, _⟩ := app_order (owns_below' OW.out.1 b3) (OW.out.2.trans (b3.mono OW.out.2.size)) hs (by omega) (Plain.ordOf o)
      have HRUN := hid hrun
      have H2 := hid (And.intro ow2 be2)
      clear hrun ow2 be2 K b3 OW
      generalize Plain.ordOf o = t at *
      go_wp2_with (first | (at_builtin; refine wpList_app _ _ 30 HRUN.out (by rfl) (by rfl) (by rfl) (by rfl) (by rfl) ?_) | fail)
      go_wp2
      go_roundg (m - (k + 1))
      case measure => omega
      case rel =>
        refine ⟨k + 1, _, by omega, by omega, by omega, by go_num, rfl, (show Aside _ from ?_)⟩
        rw [ST.out]
        exact H2.out
    · have hfin := Plain.ordsOf_take l m k (by rw [HN.out]; omega)
      have hlen := Plain.ordsOf_lenk l m k (by rw [HN.out]; exact hk1) hk2
      rw [hfin] at hlen
      have F := hid (show wr.ownsRow w.heap.size 44 4 u5 (Plain.ordsOf l m).length (encO.vals (Plain.ordsOf l m)) ∧ Below w.heap.size w wr by rw [hlen, ← hfin]; exact A.out)
      obtain ⟨po, co, eo, _⟩ := Enc.owns (E := encO) F.out.1 rfl
      subst eo
      clear hfin hlen A
      by_cases hlt1 : k < n
      · have h20 : k = m := by omega
        have hltz : (k : Int) < (n : Int) := by omega
        have hltm : ¬ (k : Int) < (m : Int) := by omega
        clear hlt
        go_wp2
        go_ret
        exact ⟨_, rfl, F.out.1, F.out.2⟩
      · clear hlt
        have hltz : ¬ (k : Int) < (n : Int) := by omega
        go_wp2
        go_ret
        exact ⟨_, rfl, F.out.1, F.out.2⟩
end Go.Proofs.Ytiolkeghgodggah.Hd
