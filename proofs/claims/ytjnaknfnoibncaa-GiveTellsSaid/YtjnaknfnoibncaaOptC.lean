/- edns' without and With. Conditions: lists that are not endless. -/
import Derived.Test.YtjnaknfnoibncaaOptB
import Derived.Deep.AppendLies
import Derived.Deep.RegionHeld3
namespace Go.Proofs.Ytjnaknfnoibncaa
open Go Go.RowKit Go.Shelf
attribute [local go_sem] Oper.semAt_some wide_fn wide_depth

theorem step_append_own {P : Program} {w : World} {ops : Array Oper} {o : Oper} {a : Act} {K : Act → World → Prop} {Q : Exit → Act → World → Prop} {E : Prop} (hgd : o.guard = none) (s x : Operand) (t : TypeId)
    (ho : o.op = .call { callee := .builtin .append, args := #[s, x], argTypes := #[t, t] })
    (base : Nat) (e : TypeId) (i : TypeInfo) (z : Value) (size bytes : Nat) (ht : P.underlying t = some (.slice e)) (hi : P.info? e = some i) (hz : i.zero = some z)
    (hsize : i.size = size) (hby : i.bytes = bytes) (hzs : z.cells.size = size) (hsz : 0 < size)
    (v : Value) (n : Nat) (xs : List Value) (hs : a.eval s = v) (hown : w.ownsRow base e size v n xs)
    (ad : Addr) (m c : Nat) (news : List Value) (hx : a.eval x = .slice (some ad) m c) (hl : news.length = m * size) (hnews : ∀ j u, news[j]? = some u → w.cell? (ad.add j) = some u) (h1 : ∀ u ∈ news, u.oneCell' = true)
    (h63 : n + m ≤ maxLen) (hbytes : (n + m) * bytes ≤ 140737488355328) (hbase : base ≤ w.heap.size)
    (h : ∀ v' w', w'.ownsRow base e size v' (n + m) (xs ++ news) → w.grownBy w' v.ownBlock → K (a.put o.dst v') w') :
    if Region.wanted o (yielded ops a.tmps) = true then Oper.wp P o a w K Q else E := by
  have hw : Region.wanted o (yielded ops a.tmps) = true := by simp [Region.wanted, hgd]
  rw [if_pos hw]
  obtain ⟨v', w', hr, h2, h3, _⟩ := run_append_own (P := P) (w := w) base t o.type e i z size bytes ht hi hz hsize hby hzs hsz v n xs hown ad m c news hl hnews h1 h63 hbytes hbase
  unfold Oper.wp execOp
  simp only [ho, resolve, invoke, builtin, Sem.run_bind, Sem.run_pure, Result.andThen_ok, List.map_toArray, List.map_cons, List.map_nil, hs, hx, hr]
  exact h v' w' h2 h3

set_option maxHeartbeats 1000000 in
theorem withoutO_any (l : List OptC) (v : Value) (p c : Nat) (w : World) (hr : SRow w v 2 (l.map OptC.cells)) (hp : w.cell? ⟨p, 0, none⟩ = some (.int .u16 (c : Int))) (hl : l.length < 4294967296) :
    Calls Try.prog 45 #[v, .func (.func 74) #[] #[.pointer (some ⟨p, 0, none⟩)]] w fun e w' =>
      ∃ v', e = .returned v' ∧ w'.ownsRow w.heap.size 72 2 v' (keepO c l).length (flatO (keepO c l)) ∧ Ext w w' := by
  have hlt : p < w.heap.size := World.block_lt_of_cell? w _ hp
  have C1 := Lib.hid (CloneO_any l v w hr hl)
  obtain ⟨ao, n, ac, rfl⟩ := hr.slice
  have C2 := Lib.hid fun v' W h1 h2 h3 => DeleteO_any w.heap.size l v' p c W h1 h2 h3 hl
  have Hp := Lib.hid hp
  have Hlt := Lib.hid hlt
  clear hp hlt hr hl
  go_enter Try.func45, Try.ntmps45
  go_wp2_with (first
    | ((with_reducible refine (C1.out).mono ?_); rintro e W1 ⟨v1, rfl, hown, hx⟩; have Hown := Lib.hid hown; have HX := Lib.hid hx; clear hown hx)
    | ((with_reducible refine (C2.out _ _ Hown.out (HX.out.keeps.cell Hp.out trivial) (fun h => by have := (Hown.out.lt _ h).1; have := Hlt.out; omega)).mono ?_); rintro e W2 ⟨v2, rfl, hown2, hk, _⟩; have Hown2 := Lib.hid hown2; have HK := Lib.hid hk; clear hown2 hk))
  go_ret
  refine ⟨_, rfl, Hown2.out, ?_⟩
  refine Keeps.ext (K := fun j => j < w.heap.size) ((HX.out.keeps.mono fun _ _ _ => trivial).trans (HK.out.mono fun j _ h e => ?_)) fun _ h => h
  have := (Hown.out.lt _ e).1
  omega

theorem newsO (w : World) (cs : Array Value) (t : TypeId) : ∀ (j : Nat) (u : Value), cs.toList[j]? = some u → (w.alloc (.cells cs t)).cell? ((⟨w.heap.size, 0, none⟩ : Addr).add j) = some u :=
  World.news_of_block (World.alloc_heap_new w (.cells cs t))
theorem own_base {W : World} {base base' : Nat} {T : TypeId} {sz n : Nat} {v : Value} {xs : List Value} (h : W.ownsRow base T sz v n xs) (hb : base' ≤ base) : W.ownsRow base' T sz v n xs := by
  refine ⟨h.1, ?_⟩
  rcases h.2 with hn | ⟨g, cap, cur, e, h1, rest⟩
  · exact .inl hn
  · exact .inr ⟨g, cap, cur, e, by omega, rest⟩
theorem own_slice {W : World} {base : Nat} {T : TypeId} {sz n : Nat} {v : Value} {xs : List Value} (h : W.ownsRow base T sz v n xs) : ∃ a c, v = .slice a n c := by
  rcases h.2 with ⟨rfl, rfl⟩ | ⟨g, cap, cur, rfl, _⟩
  · exact ⟨none, 0, rfl⟩
  · exact ⟨_, _, rfl⟩
theorem own_le {W : World} {m base : Nat} {T : TypeId} {sz n : Nat} {v : Value} {xs : List Value} (h : W.ownsRow (m + 2) T sz v n xs) (_ : m ≤ base) : W.ownsRow m T sz v n xs := own_base h (by omega)
theorem isOf_any' (c : Nat) (w : World) : Calls Try.prog 46 #[.int .u16 (c : Int)] w fun e w' => ∃ p, e = .returned (.func (.func 74) #[] #[.pointer (some ⟨p, 0, none⟩)]) ∧ w'.cell? ⟨p, 0, none⟩ = some (.int .u16 (c : Int)) ∧ Ext w w' :=
  (isOf_any c w).mono fun e w' h => ⟨w.heap.size, h.1, by rw [h.2]; exact cellO_new w _ _ 0, by rw [h.2]; exact (Ext.refl w).alloc _⟩
theorem set_at {w : World} {b : Nat} {cs : Array Value} {t : TypeId} {fr : Nat × Nat} (h : w.heap[b]? = some (.cells cs t fr)) (i : Nat) (v : Value) :
    (w.setCell ⟨b, i, none⟩ v).heap[b]? = some (.cells (cs.setIfInBounds i v) t fr) := by
  obtain ⟨hlt, hk⟩ := Array.getElem?_eq_some_iff.1 h
  show (w.heap.modify b _)[b]? = _
  rw [Array.getElem?_eq_getElem (by rw [Array.size_modify]; exact hlt), Array.getElem_modify_self, hk]
  simp
end Go.Proofs.Ytjnaknfnoibncaa
