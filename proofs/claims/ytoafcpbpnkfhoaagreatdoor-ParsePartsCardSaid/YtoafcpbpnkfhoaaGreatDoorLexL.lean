/-
  The contract of lex.Lex: the tokens of a text lie in new memory, or the error's number and its place are told; nothing that was there has changed.
-/
import Derived.Test.YtoafcpbpnkfhoaaGreatDoorLexK
namespace Go.Proofs.YtoafcpbpnkfhoaaGreatDoor.Lex
open Go.RowKit

def tokCells (t : Tok) : List Value := [.int .i64 t.kind, .string ⟨t.text.toArray⟩, .int .i64 t.place]
def cellsOf (ts : List Tok) : List Value := ts.flatMap tokCells
def slLen : Value → Nat
  | .slice _ n _ => n
  | _ => 0
def LexPost (w : World) : Lx → Ending → World → Prop
  | .toks ts, e, w' => Kept w w' ∧ ∃ v, e = .returned (.tuple #[v, .int .i64 0, .int .i64 0]) ∧ w'.ownsRow w.heap.size 62 3 v ts.length (cellsOf ts)
  | .bad b k, e, w' => Kept w w' ∧ e = .returned (.tuple #[.slice none 0 0, .int .i64 (noL b), .int .i64 (k : Nat)])

theorem cells_snoc (ts : List Tok) (t : Tok) : cellsOf (ts ++ [t]) = cellsOf ts ++ tokCells t := by simp [cellsOf]
theorem pre_pre (a b : List Tok) (r : Lx) : Lx.pre a (Lx.pre b r) = Lx.pre (a ++ b) r := by cases r <;> simp [Lx.pre]
theorem own_len {w : World} {base n : Nat} {e : TypeId} {v : Value} {xs : List Value} (h : w.ownsRow base e 3 v n xs) : slLen v = n := by
  rcases h.2 with ⟨rfl, rfl⟩ | ⟨g, cap, cur, rfl, _⟩ <;> rfl
theorem tok_info : (Tryz.prog.info? 62).map (fun i => (i.zero, i.size, i.bytes)) = some (some (.agg #[.int .i64 0, .string ⟨#[]⟩, .int .i64 0]), 3, 32) := by kernel_rfl

theorem lexTo_bad {f k g : Nat} {l : List UInt8} {b : Bool} (hg : gapG false l = g) (h : scanF (l.drop g) = .bad b) : lexTo (f + 1) l k = .bad b (k + g) := by
  simp only [lexTo, hg, h]
theorem lexTo_end {f k g n : Nat} {l : List UInt8} (hg : gapG false l = g) (h : scanF (l.drop g) = .tok 0 n) : lexTo (f + 1) l k = .toks [⟨0, [], k + g⟩] := by
  simp only [lexTo, hg, h]
theorem lexTo_tok {f k g q n : Nat} {l : List UInt8} (hg : gapG false l = g) (h : scanF (l.drop g) = .tok (q + 1) n) : lexTo (f + 1) l k = Lx.pre [⟨q + 1, (l.drop g).take n, k + g⟩] (lexTo f (l.drop (g + n)) (k + g + n)) := by
  simp only [lexTo, hg, h]
theorem pre_nil (r : Lx) : Lx.pre [] r = r := by cases r <;> simp [Lx.pre]
theorem own_base {w : World} {base base' n : Nat} {e : TypeId} {v : Value} {xs : List Value} (h : w.ownsRow base e 3 v n xs) (hb : base' ≤ base) : w.ownsRow base' e 3 v n xs := by
  refine ⟨h.1, ?_⟩
  rcases h.2 with h | ⟨g, cap, cur, h1, h2, h3⟩
  · exact .inl h
  · exact .inr ⟨g, cap, cur, h1, by omega, h3⟩
theorem tok_cells (s : ByteArray) (q a n : Nat) : [Value.int .i64 q, .string (s.extract a (a + n)), .int .i64 a] = tokCells ⟨q, ((lst s).drop a).take n, a⟩ := by
  unfold tokCells
  rw [show s.extract a (a + n) = ⟨(((lst s).drop a).take n).toArray⟩ from by rw [← mk_lst (s.extract a (a + n)), lst_extract, Nat.add_sub_cancel_left]]

/-- What stands at the head of each round. -/
structure LexAt (w : World) (s : ByteArray) (ts : List Tok) (K f : Nat) (l : Value) (wx : World) : Prop where
  kept : Kept w wx
  str : wx.heap[w.heap.size]? = some (.cells #[.string s] 9 (0, 0))
  num : wx.heap[w.heap.size + 1]? = some (.cells #[.int .i64 K] 3 (0, 0))
  own : wx.ownsRow (w.heap.size + 2) 62 3 l ts.length (cellsOf ts)
  le : K ≤ s.size
  short : ts.length ≤ K
  fuel : s.size - K < f
  eq : lexTo (s.size + 1) (lst s) 0 = Lx.pre ts (lexTo f ((lst s).drop K) K)

set_option maxHeartbeats 2000000 in
set_option maxRecDepth 100000 in
theorem Lex_small (s : ByteArray) (w : World) (pL pW : Addr) (hL : Laid w pL pW) (hs : s.size ≤ 8192) : Calls Tryz.prog 8 #[.string s] w (LexPost w (lexTo (s.size + 1) (lst s) 0)) := by
  obtain ⟨i0, hi0, hz0, hz1, hz2⟩ := info_parts tok_info
  have Hi := Lib.hid (And.intro hi0 (And.intro hz0 (And.intro hz1 hz2)))
  clear hi0 hz0 hz1 hz2
  have hpL : pL.block < w.heap.size := by obtain ⟨c, t, e⟩ := hL.rowL; exact (Array.getElem?_eq_some_iff.1 e).1
  have hpW : pW.block < w.heap.size := by obtain ⟨c, t, e⟩ := hL.rowW; exact (Array.getElem?_eq_some_iff.1 e).1
  have hsz := hL.size
  have HL := Lib.hid hL
  clear hL
  go_enter Tryz.func8, Tryz.ntmps8
  go_wp2_with (go_at_call 12; refine (reader_any _ _).mono ?_; rintro e w' ⟨rfl, rfl⟩)
  go_loopw [5, 7, 8, 9, 10] (fun l _ _ _ _ wx => ∃ ts K f, LexAt w s ts K f l wx) (fun l _ _ _ _ _ => s.size + 1 - slLen l)
  case atStart =>
    refine ⟨[], 0, s.size + 1, ((Kept.refl w).alloc _).alloc _, ?_, ?_, World.ownsRow_nil _ _ _ _, Nat.zero_le _, Nat.zero_le _, by omega, ?_⟩
    · rw [Below.heap_alloc _ _ _ (by simp)]; exact heap_alloc_new _ _
    · have h := heap_alloc_new (w.alloc (.cells #[.string s] 9)) (.cells #[.int .i64 0] 3)
      simpa using h
    · rw [pre_nil]; rfl
  case round =>
    obtain ⟨ts, K, f, hx⟩ := hrel
    have Hx := Lib.hid hx
    have hKs := hx.le
    have hts := hx.short
    clear hx
    obtain ⟨g, hg⟩ : ∃ g, gapG false ((lst s).drop K) = g := ⟨_, rfl⟩
    have hgl : K + g ≤ s.size := by
      have := gap_le false ((lst s).drop K); rw [List.length_drop, lst_length, hg] at this; omega
    cases hsc : scanF ((lst s).drop (K + g)) with
    | bad b =>
      have HN : Hid (Calls Tryz.prog 18 #[.pointer (some ⟨w.heap.size + 1, 0, none⟩), .pointer (some ⟨w.heap.size, 0, none⟩)] wr fun e w' => e = .returned (.tuple #[.agg #[.int .i64 0, .string ⟨#[]⟩, .int .i64 0], .iface 75 (.agg #[.int .i64 (K + g : Nat), errV pL pW b])]) ∧ Hid (Moved (w.heap.size + 1) (K + g : Nat) wr w')) :=
        Lib.hid ((next_bad s wr _ _ K g pL pW (HL.out.kept Hx.out.kept) hs hKs Hx.out.num Hx.out.str (by omega) (by omega) (by omega) (by omega) b hg hsc).mono fun _ _ ⟨h1, h2⟩ => ⟨h1, Lib.hid h2⟩)
      obtain ⟨f', rfl⟩ : ∃ f', f = f' + 1 := ⟨f - 1, by have := Hx.out.fuel; omega⟩
      have Hfin : Hid (lexTo (s.size + 1) (lst s) 0 = .bad b (K + g)) := Lib.hid (by
        rw [Hx.out.eq, lexTo_bad hg (by rw [List.drop_drop]; exact hsc)]; rfl)
      generalize hE : errV pL pW b = E at *
      have HE := Lib.hid hE
      clear hg hsc hE
      go_upto_region 7 with (go_at_call 18; refine (HN.out).mono ?_; rintro e w1 ⟨rfl, Hmv⟩)
      have hkw1 : Kept w (w1.alloc (.cells #[.int .i64 0, .string ⟨#[]⟩, .int .i64 0] 62)) := Kept.alloc (Below.grown Hx.out.kept Hmv.out.grown (Below.size Hx.out.kept) (fun k hk => by injection hk with hk; omega)) _
      have HT := Lib.hid (tell_any b (K + g) _ pL pW (HL.out.kept hkw1))
      rw [HE.out] at HT
      have Hk1 := Lib.hid hkw1
      clear hkw1
      go_wp2_with (go_at_call 13; refine (HT.out).mono ?_; rintro e w2 ⟨rfl, hk2⟩; have Hk2 := Lib.hid hk2; clear hk2)
      go_ret3
      rw [Hfin.out]
      exact ⟨Hk1.out.trans Hk2.out, rfl⟩
    | tok q n =>
      have hn : K + g + n ≤ s.size := by
        have := (scan_le _ _ _ hsc).1; rw [List.length_drop, lst_length] at this; omega
      have HN : Hid (Calls Tryz.prog 18 #[.pointer (some ⟨w.heap.size + 1, 0, none⟩), .pointer (some ⟨w.heap.size, 0, none⟩)] wr fun e w' => e = .returned (.tuple #[.agg #[.int .i64 q, .string (s.extract (K + g) (K + g + n)), .int .i64 (K + g : Nat)], .nilIface]) ∧ Hid (Moved (w.heap.size + 1) (K + g + n : Nat) wr w')) :=
        Lib.hid ((next_tok s wr _ _ K g pL pW (HL.out.kept Hx.out.kept) hs hKs Hx.out.num Hx.out.str (by omega) (by omega) (by omega) (by omega) q n hg hsc).mono fun _ _ ⟨h1, h2⟩ => ⟨h1, Lib.hid h2⟩)
      have Hg := Lib.hid hg
      have Hsc := Lib.hid hsc
      clear hg hsc
      go_upto_region 9 with (go_at_call 18; refine (HN.out).mono ?_; rintro e w1 ⟨rfl, Hmv⟩)
      have hmv := Hmv.out
      have hown1 : w1.ownsRow (w.heap.size + 2) 62 3 u5 ts.length (cellsOf ts) := Hx.out.own.kept hmv.grown (by
        by_cases h : u5.ownBlock = some (w.heap.size + 1)
        · have := (Hx.out.own.lt _ h).1; omega
        · exact .inr h)
      have hkw1 : Kept w w1 := Below.grown Hx.out.kept hmv.grown (Below.size Hx.out.kept) (fun k hk => by injection hk with hk; omega)
      have hsz1 : w.heap.size + 2 ≤ w1.heap.size := by
        have := (Array.getElem?_eq_some_iff.1 hmv.cell).1; omega
      have hown4 := (hown1.alloc (.cells #[.int .i64 q, .string (s.extract (K + g) (K + g + n)), .int .i64 ((K : Int) + (g : Int))] 62)).alloc (.cells #[.int .i64 q, .string (s.extract (K + g) (K + g + n)), .int .i64 ((K : Int) + (g : Int))] 62)
      have hnb : u5.ownBlock ≠ some w1.heap.size := fun h => by have := (hown1.lt _ h).2; omega
      have hnews : ∀ j u, [Value.int .i64 q, .string (s.extract (K + g) (K + g + n)), .int .i64 ((K : Int) + (g : Int))][j]? = some u → ((w1.alloc (.cells #[.int .i64 q, .string (s.extract (K + g) (K + g + n)), .int .i64 ((K : Int) + (g : Int))] 62)).alloc (.cells #[.int .i64 q, .string (s.extract (K + g) (K + g + n)), .int .i64 ((K : Int) + (g : Int))] 62)).cell? ((⟨w1.heap.size + 1, 0, none⟩ : Addr).add j) = some u := by
        intro j u hj
        rcases j with _ | _ | _ | j
        · simp at hj; subst hj; simp [Addr.add]
        · simp at hj; subst hj; simp [Addr.add]
        · simp at hj; subst hj; simp [Addr.add]
        · simp at hj
      have Ho := Lib.hid hown4
      have Hn := Lib.hid hnews
      have Hnb := Lib.hid hnb
      clear hown4 hnews hnb hmv
      go_upto_region 10 with (first
        | (at_builtin
           refine wpList_append_own_at _ rfl (.tmp 30) (.tmp 32) _ rfl (w.heap.size + 2) 62 i0 _ 3 32 Tryz.underlying49 Hi.out.1 Hi.out.2.1 Hi.out.2.2.1 Hi.out.2.2.2 rfl (by omega) u5 ts.length (cellsOf ts) rfl Ho.out ⟨w1.heap.size + 1, 0, none⟩ 1 1 _ rfl rfl Hn.out (by simp [Value.oneCell']) (by simp only [maxLen]; omega) (by omega) (by simp; omega) ?_
           intro v1 w4 hown hgrow hnil hat))
      have hkind : w4.cell? ⟨w1.heap.size, 0, none⟩ = some (.int .i64 q) := hgrow.cell (by rw [World.cell?_alloc_lt _ _ _ (by simp)]; simp) (fun e => Hnb.out e.symm)
      have hk4 : Kept w w4 := Below.grown ((hkw1.alloc _).alloc _) hgrow (by simp; omega) (fun k hk => by have := (Hx.out.own.lt _ hk).1; omega)
      have hold : ∀ k, k < w.heap.size + 2 → w4.heap[k]? = w1.heap[k]? := fun k hk => by
        rw [hgrow.block k (by simp; omega) (fun e => by have := (Hx.out.own.lt _ e.symm).1; omega), Below.heap_alloc _ _ k (by simp; omega), Below.heap_alloc _ _ k (by omega)]
      have hstr : w4.heap[w.heap.size]? = some (.cells #[.string s] 9 (0, 0)) := by
        rw [hold _ (by omega), Hmv.out.grown.block _ (by have := Below.size Hx.out.kept; have := (Array.getElem?_eq_some_iff.1 Hx.out.num).1; omega) (fun e => by injection e with e; omega)]; exact Hx.out.str
      have hnum : w4.heap[w.heap.size + 1]? = some (.cells #[.int .i64 (K + g + n : Nat)] 3 (0, 0)) := by
        rw [hold _ (by omega)]; exact Hmv.out.cell
      have hcell : cellsOf ts ++ [Value.int .i64 q, .string (s.extract (K + g) (K + g + n)), .int .i64 ((K : Int) + (g : Int))] = cellsOf (ts ++ [⟨q, ((lst s).drop (K + g)).take n, K + g⟩]) := by
        rw [cells_snoc, ← tok_cells]; rfl
      rw [hcell] at hown
      have Hown := Lib.hid hown
      have Hk4 := Lib.hid hk4
      have Hstr := Lib.hid hstr
      have Hnum := Lib.hid hnum
      clear hown hgrow hnil hat hk4 hold hstr hnum hcell Ho Hn Hnb hown1 hkw1
      obtain ⟨f', rfl⟩ : ∃ f', f = f' + 1 := ⟨f - 1, by have := Hx.out.fuel; omega⟩
      have Hsc' : Hid (scanF (((lst s).drop K).drop g) = .tok q n) := Lib.hid (by rw [List.drop_drop]; exact Hsc.out)
      rcases q with _ | q
      · have hn0 : n = 0 := by
          have h := scan_le _ _ _ Hsc.out
          have := h.2.1.1 rfl
          have h1 := h.1; rw [this] at h1; simpa using h1
        subst hn0
        have Hfin : Hid (lexTo (s.size + 1) (lst s) 0 = .toks (ts ++ [⟨0, ((lst s).drop (K + g)).take 0, K + g⟩])) := Lib.hid (by
          rw [Hx.out.eq, lexTo_end Hg.out Hsc'.out]; simp [Lx.pre])
        clear Hsc' Hsc Hg HN Hi
        go_wp2_with fail
        go_ret3
        rw [Hfin.out]
        exact ⟨Hk4.out, v1, rfl, by have := own_base Hown.out (base' := w.heap.size) (by omega); simpa using this⟩
      · have Hnext : Hid (lexTo (s.size + 1) (lst s) 0 = Lx.pre (ts ++ [⟨q + 1, ((lst s).drop (K + g)).take n, K + g⟩]) (lexTo f' ((lst s).drop (K + g + n)) (K + g + n))) := Lib.hid (by
          rw [Hx.out.eq, lexTo_tok Hg.out Hsc'.out, pre_pre, List.drop_drop, List.drop_drop, Nat.add_assoc K g n])
        have hnp : 0 < n := (scan_le _ _ _ Hsc.out).2.2.1 (by omega)
        have hq0 : (((q : Int) + 1) == 0) = false := by simp; omega
        clear Hsc' Hsc Hg HN Hi
        go_wp2_with fail
        go_roundw
        case rel => exact ⟨_, _, f', Hk4.out, Hstr.out, Hnum.out, by have := Hown.out; simpa using this, by omega, by simp; omega, by have := Hx.out.fuel; omega, Hnext.out⟩
        case measure =>
          have h1 := own_len Hown.out
          have h2 := own_len Hx.out.own
          simp only [h1, h2]
          omega
end Go.Proofs.YtoafcpbpnkfhoaaGreatDoor.Lex
