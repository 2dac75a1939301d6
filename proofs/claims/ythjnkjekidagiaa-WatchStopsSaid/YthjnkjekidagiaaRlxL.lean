/-
  The contract of the document's answer's Lex, of a text that has tokens: they lie in new memory; nothing that was there has changed.
-/
import Derived.Test.YthjnkjekidagiaaRlxN
import Derived.Test.YthjnkjekidagiaaTok
import Derived.OwnWalk
import Derived.Deep.AppendLies
namespace Go.Proofs.Ythjnkjekidagiaa.Lex
open Go.RowKit

theorem own_kept3 {w w' : World} {base n : Nat} {e : TypeId} {v : Value} {xs : List Value} (h : w.ownsRow base e 3 v n xs) (hk : Kept w w') : w'.ownsRow base e 3 v n xs := by
  refine ⟨h.1, ?_⟩
  rcases h.2 with h2 | ⟨g, cap, c, h0, h1, h2, h3⟩
  · exact .inl h2
  · exact .inr ⟨g, cap, c, h0, h1, (Below.block hk _ (Array.getElem?_eq_some_iff.1 h2).1).trans h2, h3⟩
/-- The row has one token more. -/
theorem row_next {w wx wy : World} {v v' : Value} {ts : List Tok} {t : Tok} {o : Obj} (hk : Kept w wx) (hr : wx.ownsRow w.heap.size 83 3 v ts.length (cellsOf ts)) (hg : (wx.alloc o).grownBy wy v.ownBlock)
    (ho : wy.ownsRow w.heap.size 83 3 v' (ts.length + 1) (cellsOf ts ++ tokCells t)) : Kept w wy ∧ wy.ownsRow w.heap.size 83 3 v' (ts ++ [t]).length (cellsOf (ts ++ [t])) := by
  refine ⟨(hk.alloc o).grown hg (by have := hk.size; simp; omega) (fun k hk' => ?_), by rw [cells_snoc, List.length_append]; exact ho⟩
  rcases hr.2 with ⟨h1, _⟩ | ⟨g, cap, c, h1, h2, _⟩
  · rw [h1] at hk'; simp [Value.ownBlock] at hk'
  · rw [h1] at hk'; simp [Value.ownBlock] at hk'; omega
theorem span_here (p : UInt8 → Bool) (s : ByteArray) (k j : Nat) (hj : j ≤ spanF p ((lst s).drop k)) (h : k + j < s.size) : (p (s[k + j]'h) = true ∧ j + 1 ≤ spanF p ((lst s).drop k)) ∨ (p (s[k + j]'h) = false ∧ spanF p ((lst s).drop k) = j) := by
  have hl : ((lst s).drop k).length = s.size - k := by rw [List.length_drop, lst_length]
  have h1 := span_all p ((lst s).drop k) j hj (by omega)
  have h2 : ((lst s).drop k)[j]'(by omega) = s[k + j]'h := by rw [List.getElem_drop]; exact lst_get s _ h
  rw [h2] at h1; exact h1
theorem inWord_yes {c : UInt8} (h : inWordF c = true) : isLetterF c = true ∨ (isLetterF c = false ∧ isDigitF c = true) ∨ (isLetterF c = false ∧ isDigitF c = false ∧ ((c.toNat : Int) == 95) = true) := by
  unfold inWordF at h
  cases h1 : isLetterF c
  · cases h2 : isDigitF c
    · rw [h1, h2] at h; simp at h
      exact .inr (.inr ⟨rfl, rfl, by rw [h]; rfl⟩)
    · exact .inr (.inl ⟨rfl, rfl⟩)
  · exact .inl rfl
theorem line_iff (c : UInt8) : ((c.toNat : Int) != 10) = inLineF c := by
  unfold inLineF
  rw [Bool.eq_iff_iff]; simp; omega
theorem key_small {l : List UInt8} (h : isKeyF l = true) : l.length ≤ 9 := by
  rcases key_cases l h with h | h | h | h | h | h | h | h | h | h | h | h | h | h | h | h | h | h | h | h | h | h | h | h | h | h | h | h <;> rw [h] <;> simp

set_option maxRecDepth 100000 in
set_option maxHeartbeats 4000000 in
theorem rLex_any (s : ByteArray) (w : World) (T : List Tok) (hs : s.size ≤ 8192) (h : lexF (lst s) = .toks T) : Calls Try.prog 30 #[.string s] w fun e w' => ∃ v, e = .returned (.tuple #[v, .int .i64 0, .int .i64 0]) ∧ Hid (Kept w w' ∧ w'.ownsRow w.heap.size 83 3 v T.length (cellsOf T)) := by
  obtain ⟨i0, hi0, hz0, hz1, hz2⟩ := info_parts tok_info
  have Hi := Lib.hid (And.intro hi0 (And.intro hz0 (And.intro hz1 hz2)))
  clear hi0 hz0 hz1 hz2
  have H0 : Hid (∃ f, lexTo f ((lst s).drop 0) 0 = .toks T) := Lib.hid ⟨_, by unfold lexF at h; rw [if_neg (by rw [lst_length]; omega)] at h; simpa using h⟩
  clear h
  go_enter Try.func30, Try.ntmps30
  go_wp2
  go_loopw [5, 6] (fun v i wz => ∃ (k : Nat) (ts rest : List Tok) (wx : World), i = .int .i64 k ∧ wx = wz ∧ k ≤ s.size ∧ ts.length ≤ k ∧ Hid (T = ts ++ rest) ∧ Hid (∃ f, lexTo f ((lst s).drop k) k = .toks rest) ∧ Hid (Kept w wx ∧ wx.ownsRow w.heap.size 83 3 v ts.length (cellsOf ts))) (fun _ i _ => s.size - (intOf i).toNat)
  case atStart => exact ⟨0, [], T, _, rfl, rfl, by omega, by simp, Lib.hid rfl, H0, Lib.hid ⟨Kept.refl _, rfl, .inl ⟨rfl, rfl⟩⟩⟩
  case round =>
    obtain ⟨k, ts, rest, wx, rfl, rfl, hk, hlen, HT, HR, HW⟩ := hrel
    clear H0
    have hbw := HW.out.1.size
    by_cases hlt : k < s.size
    case neg =>
      obtain rfl : k = s.size := by omega
      have HE : Hid (rest = [⟨0, [], s.size⟩]) := Lib.hid (by obtain ⟨f, hf⟩ := HR.out; rw [List.drop_of_length_le (by rw [lst_length]; exact Nat.le_refl _)] at hf; exact lex_end hf)
      go_wp2_with (at_builtin; refine wpList_append_lies _ rfl (.tmp 143) (.tmp 147) 75 rfl w.heap.size 83 i0 _ 3 32 Try.underlying75 Hi.out.1 Hi.out.2.1 Hi.out.2.2.1 Hi.out.2.2.2 rfl (by omega) u5 ts.length (cellsOf ts) rfl ((HW.out.2).alloc _) ⟨wx.heap.size, 0, none⟩ 1 1 [.int .i64 0, .string ⟨#[]⟩, .int .i64 s.size] rfl rfl (World.news_of_block (cs := #[.int .i64 0, .string ⟨#[]⟩, .int .i64 s.size]) (heap_alloc_new wx _)) (by simp [Value.oneCell']) (by omega) (by simp only [maxLen]; omega) (by omega) (by simp; omega) (wx.heap.size + 1) (by simp) ?_; intro ga cap w7 hown hgrow hat hlt7; have Hown7 := Lib.hid hown; have Hgrow := Lib.hid hgrow; have Hat := Lib.hid hat; clear hown hgrow hat)
      go_ret3
      have hn := row_next (t := ⟨0, [], s.size⟩) HW.out.1 HW.out.2 Hgrow.out Hown7.out
      exact ⟨_, rfl, Lib.hid (by rw [HT.out, HE.out]; exact hn)⟩
    rcases gap_step' s k hlt with ⟨hb, hg⟩ | ⟨hb, h35, hg, h1⟩ | ⟨hb, h35, hg⟩
    · have HG := Lib.hid hg; clear hg
      have hbl := blank_yes hb
      go_wp2_with fail
      all_goals
        exact ⟨⟨k + 1, ts, rest, _, by simp, rfl, by omega, by omega, HT, Lib.hid (by obtain ⟨f, hf⟩ := HR.out; exact ⟨f, lex_gap HG.out hf⟩), HW⟩, by simp [intOf]; omega⟩
    · have HG := Lib.hid hg; clear hg
      obtain ⟨n1, n2, n3, n4⟩ := blank_no hb
      have q1 : ¬ ((s[k].toNat : Int) = 32) := by omega
      have q2 : ¬ ((s[k].toNat : Int) = 9) := by omega
      have q3 : ¬ ((s[k].toNat : Int) = 10) := by omega
      have q4 : ¬ ((s[k].toNat : Int) = 13) := by omega
      have q5 : (s[k].toNat : Int) = 35 := by omega
      have hsl : k + spanF inLineF ((lst s).drop k) ≤ s.size := by have := span_le inLineF ((lst s).drop k); rw [List.length_drop, lst_length] at this; omega
      clear h35 n1 n2 n3 n4 hb
      generalize hD : spanF inLineF ((lst s).drop k) = D at *
      go_wp2_with fail
      go_loop [6] (fun x => ∃ j : Nat, j ≤ D ∧ x = .int .i64 ((k : Int) + (j : Int))) (fun x => s.size - (intOf x).toNat)
      case atStart => exact ⟨0, by omega, by simp⟩
      case round =>
        obtain ⟨j, hj, rfl⟩ := hrel
        by_cases hb : k + j < s.size
        · have hh := span_here inLineF s k j (by rw [hD]; exact hj) hb
          rw [hD] at hh
          rcases hh with ⟨h2, h3⟩ | ⟨h2, h3⟩
          · have hne : (((s[k + j]'hb).toNat : Int) != 10) = true := by rw [line_iff]; exact h2
            clear h2 HG
            go_wp2_with fail
            exact ⟨⟨j + 1, h3, by congr 1 <;> omega⟩, by simp [intOf]; omega⟩
          · have hne : (((s[k + j]'hb).toNat : Int) != 10) = false := by rw [line_iff]; exact h2
            subst h3
            clear h2 hD
            go_wp2_with fail
            exact ⟨⟨k + D, ts, rest, _, by congr 1 <;> omega, rfl, by omega, by omega, HT, Lib.hid (by obtain ⟨f, hf⟩ := HR.out; exact ⟨f, lex_gap HG.out hf⟩), HW⟩, by simp [intOf]; omega⟩
        · obtain rfl : j = D := by omega
          clear hD
          go_wp2_with fail
          exact ⟨⟨k + j, ts, rest, _, by congr 1 <;> omega, rfl, by omega, by omega, HT, Lib.hid (by obtain ⟨f, hf⟩ := HR.out; exact ⟨f, lex_gap HG.out hf⟩), HW⟩, by simp [intOf]; omega⟩
    · obtain ⟨n1, n2, n3, n4⟩ := blank_no hb
      have q1 : ¬ ((s[k].toNat : Int) = 32) := by omega
      have q2 : ¬ ((s[k].toNat : Int) = 9) := by omega
      have q3 : ¬ ((s[k].toNat : Int) = 10) := by omega
      have q4 : ¬ ((s[k].toNat : Int) = 13) := by omega
      have q5 : ¬ ((s[k].toNat : Int) = 35) := by omega
      have r1 : ((s[k].toNat : Int) == 32) = false := by rw [beq_eq_false_iff_ne]; omega
      have r2 : ((s[k].toNat : Int) == 9) = false := by rw [beq_eq_false_iff_ne]; omega
      have r3 : ((s[k].toNat : Int) == 10) = false := by rw [beq_eq_false_iff_ne]; omega
      have r4 : ((s[k].toNat : Int) == 13) = false := by rw [beq_eq_false_iff_ne]; omega
      have r5 : ((s[k].toNat : Int) == 35) = false := by rw [beq_eq_false_iff_ne]; omega
      clear h35 n1 n2 n3 n4 hb
      have hpe : ∃ q n R', scanF ((lst s).drop k) = .tok (q + 1) n ∧ rest = ⟨q + 1, ((lst s).drop k).take n, k⟩ :: R' ∧ (∃ f', lexTo f' ((lst s).drop (k + n)) (k + n) = .toks R') ∧ 0 < n ∧ k + n ≤ s.size := by
        obtain ⟨f, hf⟩ := HR.out
        obtain ⟨q, n, R', f', e1, e2, e3, e4, e5⟩ := lex_tok hg (by rw [lst_length]; exact hlt) hf
        exact ⟨q, n, R', e1, e2, ⟨f', e3⟩, e4, e5⟩
      obtain ⟨q, n, R', hsc, e2, e3, e4, e5⟩ := hpe
      have HE := Lib.hid (And.intro e2 e3)
      clear HR hg e2 e3
      rw [show scanF ((lst s).drop k) = if isLetterF s[k] then wordF ((lst s).drop k) else if isDigitF s[k] then numberF ((lst s).drop k) else if 0 < signF ((lst s).drop k) then .tok 4 (signF ((lst s).drop k)) else .bad false by
        rw [List.drop_eq_getElem_cons (show k < (lst s).length by rw [lst_length]; exact hlt)]; rfl] at hsc
      by_cases hL : isLetterF s[k] = true
      · rw [if_pos hL] at hsc
        have hwd : n = spanF inWordF ((lst s).drop k) ∧ n ≤ 20 ∧ ((q = 2 ∧ isKeyF (((lst s).drop k).take n) = true) ∨ (q = 0 ∧ isKeyF (((lst s).drop k).take n) = false)) := by
          unfold wordF at hsc
          split at hsc
          · rename_i hkk
            injection hsc with h1 h2
            rw [h2] at hkk
            have h3 := key_small hkk
            rw [List.length_take, List.length_drop, lst_length] at h3
            exact ⟨h2.symm, by omega, .inl ⟨by omega, hkk⟩⟩
          · rename_i hkk
            split at hsc
            · cases hsc
            · injection hsc with h1 h2
              rw [h2] at hkk
              exact ⟨h2.symm, by omega, .inr ⟨by omega, by simpa using hkk⟩⟩
        obtain ⟨hn, h20, hkd⟩ := hwd
        clear hsc
        have hq : ((k : Int) + (n : Int) - (k : Int)) = (n : Int) := by omega
        go_wp2_with (first | (go_at_call 44; refine (rletter_any _ _).mono ?_; rintro e w' ⟨rfl, rfl⟩))
        go_loop [8] (fun x => ∃ j : Nat, j ≤ n ∧ x = .int .i64 ((k : Int) + (j : Int))) (fun x => s.size - (intOf x).toNat)
        case atStart => exact ⟨0, by omega, by simp⟩
        case round =>
          obtain ⟨j, hj, rfl⟩ := hrel
          by_cases hb : k + j < s.size
          · have hh := span_here inWordF s k j (by rw [← hn]; exact hj) hb
            rw [← hn] at hh
            rcases hh with ⟨h2, h3⟩ | ⟨h2, h3⟩
            · clear hkd hn
              rcases inWord_yes h2 with f1 | ⟨f1, f2⟩ | ⟨f1, f2, f3⟩
              all_goals
                clear h2
                go_wp2_with (first | (go_at_call 45; refine (rdigit_any _ _).mono ?_; rintro e w' ⟨rfl, rfl⟩) | (go_at_call 44; refine (rletter_any _ _).mono ?_; rintro e w' ⟨rfl, rfl⟩))
                exact ⟨⟨j + 1, h3, by congr 1 <;> omega⟩, by simp [intOf]; omega⟩
            · subst h3
              obtain ⟨f1, f2, f3⟩ := inWord_no h2
              clear h2 hn
              rcases hkd with ⟨rfl, hkey⟩ | ⟨rfl, hkey⟩
              · have HK : Hid (∀ w2 : World, Calls Try.prog 46 #[.string (s.extract k (k + n))] w2 fun e w' => e = .returned (.bool true) ∧ Kept w2 w') := Lib.hid fun w2 => by have := rkey_any (s.extract k (k + n)) w2; rw [lst_cut, hkey] at this; exact this
                clear hkey
                go_wp2_with (first | (go_at_call 45; refine (rdigit_any _ _).mono ?_; rintro e w' ⟨rfl, rfl⟩) | (go_at_call 44; refine (rletter_any _ _).mono ?_; rintro e w' ⟨rfl, rfl⟩) | (go_at_call 46; refine (HK.out _).mono ?_; rintro e w2 ⟨rfl, hk2⟩; have HW2 := Lib.hid (And.intro (HW.out.1.trans hk2) (own_kept3 HW.out.2 hk2)); have hb2 := HW2.out.1.size; clear hk2) | (at_builtin; refine wpList_append_lies _ rfl (.tmp 109) (.tmp 117) 75 rfl w.heap.size 83 i0 _ 3 32 Try.underlying75 Hi.out.1 Hi.out.2.1 Hi.out.2.2.1 Hi.out.2.2.2 rfl (by omega) u5 ts.length (cellsOf ts) rfl ((HW2.out.2).alloc _) ⟨w2.heap.size, 0, none⟩ 1 1 [.int .i64 3, .string (s.extract k (k + n)), .int .i64 k] rfl rfl (World.news_of_block (cs := #[.int .i64 3, .string (s.extract k (k + n)), .int .i64 k]) (heap_alloc_new w2 _)) (by simp [Value.oneCell']) (by omega) (by simp only [maxLen]; omega) (by omega) (by simp; omega) (w2.heap.size + 1) (by simp) ?_; intro ga cap w7 hown hgrow hat hlt7; have Hown7 := Lib.hid hown; have Hgrow := Lib.hid hgrow; have Hat := Lib.hid hat; clear hown hgrow hat))
                have hn := row_next (t := ⟨3, ((lst s).drop k).take n, k⟩) HW2.out.1 HW2.out.2 Hgrow.out (by rw [← tok_cells]; exact Hown7.out)
                exact ⟨⟨k + n, ts ++ [⟨3, ((lst s).drop k).take n, k⟩], R', _, by simp, rfl, by omega, by simp; omega, Lib.hid (by rw [HT.out, HE.out.1]; simp), Lib.hid HE.out.2, Lib.hid hn⟩, by simp [intOf]; omega⟩
              · have HK : Hid (∀ w2 : World, Calls Try.prog 46 #[.string (s.extract k (k + n))] w2 fun e w' => e = .returned (.bool false) ∧ Kept w2 w') := Lib.hid fun w2 => by have := rkey_any (s.extract k (k + n)) w2; rw [lst_cut, hkey] at this; exact this
                clear hkey
                go_wp2_with (first | (go_at_call 45; refine (rdigit_any _ _).mono ?_; rintro e w' ⟨rfl, rfl⟩) | (go_at_call 44; refine (rletter_any _ _).mono ?_; rintro e w' ⟨rfl, rfl⟩) | (go_at_call 46; refine (HK.out _).mono ?_; rintro e w2 ⟨rfl, hk2⟩; have HW2 := Lib.hid (And.intro (HW.out.1.trans hk2) (own_kept3 HW.out.2 hk2)); have hb2 := HW2.out.1.size; clear hk2) | (at_builtin; refine wpList_append_lies _ rfl (.tmp 109) (.tmp 117) 75 rfl w.heap.size 83 i0 _ 3 32 Try.underlying75 Hi.out.1 Hi.out.2.1 Hi.out.2.2.1 Hi.out.2.2.2 rfl (by omega) u5 ts.length (cellsOf ts) rfl ((HW2.out.2).alloc _) ⟨w2.heap.size, 0, none⟩ 1 1 [.int .i64 1, .string (s.extract k (k + n)), .int .i64 k] rfl rfl (World.news_of_block (cs := #[.int .i64 1, .string (s.extract k (k + n)), .int .i64 k]) (heap_alloc_new w2 _)) (by simp [Value.oneCell']) (by omega) (by simp only [maxLen]; omega) (by omega) (by simp; omega) (w2.heap.size + 1) (by simp) ?_; intro ga cap w7 hown hgrow hat hlt7; have Hown7 := Lib.hid hown; have Hgrow := Lib.hid hgrow; have Hat := Lib.hid hat; clear hown hgrow hat))
                have hn := row_next (t := ⟨1, ((lst s).drop k).take n, k⟩) HW2.out.1 HW2.out.2 Hgrow.out (by rw [← tok_cells]; exact Hown7.out)
                exact ⟨⟨k + n, ts ++ [⟨1, ((lst s).drop k).take n, k⟩], R', _, by simp, rfl, by omega, by simp; omega, Lib.hid (by rw [HT.out, HE.out.1]; simp), Lib.hid HE.out.2, Lib.hid hn⟩, by simp [intOf]; omega⟩
          · obtain rfl : j = n := by omega
            clear hn
            rcases hkd with ⟨rfl, hkey⟩ | ⟨rfl, hkey⟩
            · have HK : Hid (∀ w2 : World, Calls Try.prog 46 #[.string (s.extract k (k + j))] w2 fun e w' => e = .returned (.bool true) ∧ Kept w2 w') := Lib.hid fun w2 => by have := rkey_any (s.extract k (k + j)) w2; rw [lst_cut, hkey] at this; exact this
              clear hkey
              go_wp2_with (first | (go_at_call 46; refine (HK.out _).mono ?_; rintro e w2 ⟨rfl, hk2⟩; have HW2 := Lib.hid (And.intro (HW.out.1.trans hk2) (own_kept3 HW.out.2 hk2)); have hb2 := HW2.out.1.size; clear hk2) | (at_builtin; refine wpList_append_lies _ rfl (.tmp 109) (.tmp 117) 75 rfl w.heap.size 83 i0 _ 3 32 Try.underlying75 Hi.out.1 Hi.out.2.1 Hi.out.2.2.1 Hi.out.2.2.2 rfl (by omega) u5 ts.length (cellsOf ts) rfl ((HW2.out.2).alloc _) ⟨w2.heap.size, 0, none⟩ 1 1 [.int .i64 3, .string (s.extract k (k + j)), .int .i64 k] rfl rfl (World.news_of_block (cs := #[.int .i64 3, .string (s.extract k (k + j)), .int .i64 k]) (heap_alloc_new w2 _)) (by simp [Value.oneCell']) (by omega) (by simp only [maxLen]; omega) (by omega) (by simp; omega) (w2.heap.size + 1) (by simp) ?_; intro ga cap w7 hown hgrow hat hlt7; have Hown7 := Lib.hid hown; have Hgrow := Lib.hid hgrow; have Hat := Lib.hid hat; clear hown hgrow hat))
              have hn := row_next (t := ⟨3, ((lst s).drop k).take j, k⟩) HW2.out.1 HW2.out.2 Hgrow.out (by rw [← tok_cells]; exact Hown7.out)
              exact ⟨⟨k + j, ts ++ [⟨3, ((lst s).drop k).take j, k⟩], R', _, by simp, rfl, by omega, by simp; omega, Lib.hid (by rw [HT.out, HE.out.1]; simp), Lib.hid HE.out.2, Lib.hid hn⟩, by simp [intOf]; omega⟩
            · have HK : Hid (∀ w2 : World, Calls Try.prog 46 #[.string (s.extract k (k + j))] w2 fun e w' => e = .returned (.bool false) ∧ Kept w2 w') := Lib.hid fun w2 => by have := rkey_any (s.extract k (k + j)) w2; rw [lst_cut, hkey] at this; exact this
              clear hkey
              go_wp2_with (first | (go_at_call 46; refine (HK.out _).mono ?_; rintro e w2 ⟨rfl, hk2⟩; have HW2 := Lib.hid (And.intro (HW.out.1.trans hk2) (own_kept3 HW.out.2 hk2)); have hb2 := HW2.out.1.size; clear hk2) | (at_builtin; refine wpList_append_lies _ rfl (.tmp 109) (.tmp 117) 75 rfl w.heap.size 83 i0 _ 3 32 Try.underlying75 Hi.out.1 Hi.out.2.1 Hi.out.2.2.1 Hi.out.2.2.2 rfl (by omega) u5 ts.length (cellsOf ts) rfl ((HW2.out.2).alloc _) ⟨w2.heap.size, 0, none⟩ 1 1 [.int .i64 1, .string (s.extract k (k + j)), .int .i64 k] rfl rfl (World.news_of_block (cs := #[.int .i64 1, .string (s.extract k (k + j)), .int .i64 k]) (heap_alloc_new w2 _)) (by simp [Value.oneCell']) (by omega) (by simp only [maxLen]; omega) (by omega) (by simp; omega) (w2.heap.size + 1) (by simp) ?_; intro ga cap w7 hown hgrow hat hlt7; have Hown7 := Lib.hid hown; have Hgrow := Lib.hid hgrow; have Hat := Lib.hid hat; clear hown hgrow hat))
              have hn := row_next (t := ⟨1, ((lst s).drop k).take j, k⟩) HW2.out.1 HW2.out.2 Hgrow.out (by rw [← tok_cells]; exact Hown7.out)
              exact ⟨⟨k + j, ts ++ [⟨1, ((lst s).drop k).take j, k⟩], R', _, by simp, rfl, by omega, by simp; omega, Lib.hid (by rw [HT.out, HE.out.1]; simp), Lib.hid HE.out.2, Lib.hid hn⟩, by simp [intOf]; omega⟩
      rw [if_neg hL] at hsc
      have hL' : isLetterF s[k] = false := by simpa using hL
      clear hL
      by_cases hDg : isDigitF s[k] = true
      · rw [if_pos hDg] at hsc
        obtain ⟨-, -, hq, -⟩ := number_out hsc
        obtain rfl : q = 1 := by omega
        have HN := Lib.hid (rnumber_ok s k n _ wx (by omega) hlt hsc)
        clear hsc hq
        go_wp2_with (first | (go_at_call 45; refine (rdigit_any _ _).mono ?_; rintro e w' ⟨rfl, rfl⟩) | (go_at_call 44; refine (rletter_any _ _).mono ?_; rintro e w' ⟨rfl, rfl⟩) | (go_at_call 47; refine HN.out.mono ?_; rintro e w' ⟨rfl, rfl⟩) | (at_builtin; refine wpList_append_lies _ rfl (.tmp 133) (.tmp 140) 75 rfl w.heap.size 83 i0 _ 3 32 Try.underlying75 Hi.out.1 Hi.out.2.1 Hi.out.2.2.1 Hi.out.2.2.2 rfl (by omega) u5 ts.length (cellsOf ts) rfl ((HW.out.2).alloc _) ⟨wx.heap.size, 0, none⟩ 1 1 [.int .i64 2, .string (s.extract k (k + n)), .int .i64 k] rfl rfl (World.news_of_block (cs := #[.int .i64 2, .string (s.extract k (k + n)), .int .i64 k]) (heap_alloc_new wx _)) (by simp [Value.oneCell']) (by omega) (by simp only [maxLen]; omega) (by omega) (by simp; omega) (wx.heap.size + 1) (by simp) ?_; intro ga cap w7 hown hgrow hat hlt7; have Hown7 := Lib.hid hown; have Hgrow := Lib.hid hgrow; have Hat := Lib.hid hat; clear hown hgrow hat))
        have hn := row_next (t := ⟨2, ((lst s).drop k).take n, k⟩) HW.out.1 HW.out.2 Hgrow.out (by rw [← tok_cells]; exact Hown7.out)
        exact ⟨⟨k + n, ts ++ [⟨2, ((lst s).drop k).take n, k⟩], R', _, by simp, rfl, by omega, by simp; omega, Lib.hid (by rw [HT.out, HE.out.1]; simp), Lib.hid HE.out.2, Lib.hid hn⟩, by simp [intOf]; omega⟩
      rw [if_neg hDg] at hsc
      have hDg' : isDigitF s[k] = false := by simpa using hDg
      clear hDg
      by_cases hsg : 0 < signF ((lst s).drop k)
      · rw [if_pos hsg] at hsc
        injection hsc with hq hn
        obtain rfl : q = 3 := by omega
        have HN := Lib.hid (rsign_any s k wx (by omega) hlt hsg)
        rw [hn] at HN hsg
        clear hn hq
        have hsz : (s.extract k (k + n)).size = n := by rw [ByteArray.size_extract]; omega
        have hne : ((s.extract k (k + n)).toList == []) = false := by
          rw [lst_toList, beq_eq_false_iff_ne]
          intro e
          have := congrArg List.length e
          rw [lst_length, hsz] at this
          simp at this; omega
        go_wp2_with (first | (go_at_call 45; refine (rdigit_any _ _).mono ?_; rintro e w' ⟨rfl, rfl⟩) | (go_at_call 44; refine (rletter_any _ _).mono ?_; rintro e w' ⟨rfl, rfl⟩) | (go_at_call 48; refine HN.out.mono ?_; rintro e w' ⟨rfl, rfl⟩) | (at_builtin; refine wpList_append_lies _ rfl (.tmp 29) (.tmp 33) 75 rfl w.heap.size 83 i0 _ 3 32 Try.underlying75 Hi.out.1 Hi.out.2.1 Hi.out.2.2.1 Hi.out.2.2.2 rfl (by omega) u5 ts.length (cellsOf ts) rfl ((HW.out.2).alloc _) ⟨wx.heap.size, 0, none⟩ 1 1 [.int .i64 4, .string (s.extract k (k + n)), .int .i64 k] rfl rfl (World.news_of_block (cs := #[.int .i64 4, .string (s.extract k (k + n)), .int .i64 k]) (heap_alloc_new wx _)) (by simp [Value.oneCell']) (by omega) (by simp only [maxLen]; omega) (by omega) (by simp; omega) (wx.heap.size + 1) (by simp) ?_; intro ga cap w7 hown hgrow hat hlt7; have Hown7 := Lib.hid hown; have Hgrow := Lib.hid hgrow; have Hat := Lib.hid hat; clear hown hgrow hat))
        have hn := row_next (t := ⟨4, ((lst s).drop k).take n, k⟩) HW.out.1 HW.out.2 Hgrow.out (by rw [← tok_cells]; exact Hown7.out)
        exact ⟨⟨k + n, ts ++ [⟨4, ((lst s).drop k).take n, k⟩], R', _, by simp, rfl, by omega, by simp; omega, Lib.hid (by rw [HT.out, HE.out.1]; simp), Lib.hid HE.out.2, Lib.hid hn⟩, by simp [intOf]; omega⟩
      · rw [if_neg hsg] at hsc; cases hsc
end Go.Proofs.Ythjnkjekidagiaa.Lex
