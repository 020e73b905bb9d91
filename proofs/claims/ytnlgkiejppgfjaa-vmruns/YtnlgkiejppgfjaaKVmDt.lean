/-
  The document's machine (burinref25): a step, every way: a contract over the program; the conditions: the machine lies there, and its program can be run.
  The document's machine (burinref25): Run where there is no run, and the machine as it is made: contracts over the program; the conditions: the program lies in memory.
  The document's machine (burinref25): a run: a contract over the program; the conditions: the program lies in memory, and it can be run.
  The document's machine (burinref25): Run: a contract over the program; the conditions: the program lies in memory, and it can be run.
  The statement VmRuns: its walk over the program; the conditions: the program lies in memory.
-/
import Derived.Test.YtnlgkiejppgfjaaKVmDh
import Derived.Test.YtnlgkiejppgfjaaKVmDi
import Derived.Test.YtnlgkiejppgfjaaKVmDj
import Derived.Test.YtnlgkiejppgfjaaKVmDk
import Derived.Test.YtnlgkiejppgfjaaKVmDl
import Derived.Test.YtnlgkiejppgfjaaKVmDm
import Derived.Test.YtnlgkiejppgfjaaKVmDo
import Derived.Deep.RegionLaw
import Derived.Deep.LoopGhost
namespace Go.Proofs.Ytnlgkiejppgfjaa
open Go.RowKit Go.Deep
set_option linter.unusedVariables false

namespace Da
section
variable {w w' w0 : World} {R : Nat} {col col' : Col} {im : PIm} {mem : List Int} {l : List Dc} {cls : List Cl} {tr : List Int} {n : Nat} {cv kv tv : Value} {k : Nat} {y : Dc} {v : Int}
theorem DL.mono (h : DL mem l cls tr n) (hn : n + 1 ≤ 8388608) : DL mem l cls tr (n + 1) := ⟨h.cl, h.ok, h.an, h.up, h.top, h.ml, h.cll, Nat.le_succ_of_le h.trl, hn⟩
theorem allP_at {n : Nat} : ∀ {a b : List Int}, allP n a b = true → ∀ {j : Nat} {s f : Int}, a[j]? = some s → b[j]? = some f → oneP n s f = true
  | [], _, _, j, s, f, h, _ => by simp at h
  | _ :: _, [], _, j, s, f, _, h => by simp at h
  | x :: a, z :: b, h, j, s, f, h1, h2 => by
    rw [allP, Bool.and_eq_true] at h
    cases j with
    | zero =>
      simp at h1 h2
      subst h1; subst h2
      exact h.1
    | succ j => exact allP_at h.2 (by simpa using h1) (by simpa using h2)
theorem do2_bd (o t a b : Int) : 0 ≤ Burin.do2 o t a b ∧ Burin.do2 o t a b ≤ 255 := by
  unfold Burin.do2
  (repeat' split) <;> first | omega | ((try unfold Burin.keep2); (try unfold Burin.div2); (try unfold Burin.shl2); (try unfold Burin.shr2); (try unfold Burin.cmp2); (try unfold Burin.keep2); (repeat' split) <;> omega)
theorem sp_go {e : Ending} {m : List Int} {c : List Cl} {t : List Int} {l' : List Dc} {col' : Col} {cv kv tv : Value} (he : e = .returned (.tuple #[])) (h1 : DX w' w0 R col' im m l' t false 0 0 false n cv kv tv) (h2 : Ex col w col' w') (h3 : DL m l' c t n) : SP w w0 R col im tr n (.go m c t) e w' := ⟨he, col', l', cv, kv, tv, h1, h2, h3⟩
theorem sp_stop {e : Ending} {q : Int} {m : List Int} {l' : List Dc} {col' : Col} {cv kv tv : Value} (he : e = .returned (.tuple #[])) (h0 : q ≠ 0) (h1 : DX w' w0 R col' im m l' tr false 0 q false n cv kv tv) (h2 : Ex col w col' w') : SP w w0 R col im tr n (.stop q) e w' := ⟨he, h0, col', m, l', cv, kv, tv, h1, h2⟩

set_option maxRecDepth 100000 in
set_option maxHeartbeats 4000000 in
theorem step_dc (h : DX w w0 R col im mem l tr false 0 0 false (n + 1) cv kv tv) (D : DL mem l cls tr n) (hn : cls.length ≠ 0) (hN : n + 1 ≤ 8388608) (hok : im.ok w0) (hF : formP im = true) :
    Calls Try.prog 19 #[.pointer (some ⟨R, 0, none⟩)] w (SP w w0 R col im tr (n + 1) (stepP im mem cls tr)) := by
  have hll := D.len
  obtain ⟨k, hk⟩ : ∃ k, k + 1 = l.length := ⟨l.length - 1, by omega⟩
  have hkm : k < 2000 := by have := D.cll; omega
  obtain ⟨y, hy⟩ := get_of_lt (show k < l.length by omega)
  have hc := D.at hy
  obtain ⟨hlw, hst0⟩ := form_len hF
  have hal := D.ok
  have hst : stepP im mem cls tr = (match im.ws[y.c.pl]? with | none => .stop 5 | some v => if goodW v then doP im mem (onP cls y.c) tr { y.c with pl := y.c.pl + 1 } v else .stop 5) := by unfold stepP; rw [show cls.length - 1 = k by omega, hc]; rfl
  rw [hst]
  clear hst
  have BAD : ∀ {Q1 : Ending → World → Prop}, (∀ e w', Q1 e w' → e = .returned (.tuple #[]) ∧ ∃ kv', DX w' w0 R col im mem l tr false 0 5 false (n + 1) cv kv' tv ∧ Ex col w col w') → Calls Try.prog 19 #[.pointer (some ⟨R, 0, none⟩)] w Q1 → Calls Try.prog 19 #[.pointer (some ⟨R, 0, none⟩)] w (SP w w0 R col im tr (n + 1) (.stop 5)) := fun hQ hC => hC.mono (fun e w' q => by
    obtain ⟨h1, kv', h2, h3⟩ := hQ e w' q
    exact sp_stop h1 (by decide) h2 h3)
  have BADL : ∀ {l2 : List Dc} {Q1 : Ending → World → Prop}, (∀ e w', Q1 e w' → e = .returned (.tuple #[]) ∧ ∃ kv', DX w' w0 R col im mem l2 tr false 0 5 false (n + 1) cv kv' tv ∧ Ex col w col w') → Calls Try.prog 19 #[.pointer (some ⟨R, 0, none⟩)] w Q1 → Calls Try.prog 19 #[.pointer (some ⟨R, 0, none⟩)] w (SP w w0 R col im tr (n + 1) (.stop 5)) := fun hQ hC => hC.mono (fun e w' q => by
    obtain ⟨h1, kv', h2, h3⟩ := hQ e w' q
    exact sp_stop h1 (by decide) h2 h3)
  cases hv : im.ws[y.c.pl]? with
  | none => exact BAD (fun _ _ q => q) (none_any h hal hok hlw hk hkm hy hv)
  | some v =>
    dsimp only
    obtain ⟨_, _, _, hU⟩ := Wds.at hok.ws hv
    have hU := hU.2
    cases hg : goodW v with
    | false =>
      rw [if_neg (by simp)]
      by_cases g0 : f0 v = 0
      · by_cases g4 : 5 < ft v
        · exact BAD (fun _ _ q => q) (bad_1 h hal hok hlw hk hkm hy hv hU g0 g4)
        by_cases g1 : 7 < fd v
        · exact BAD (fun _ _ q => q) (bad_2 h hal hok hlw hk hkm hy hv hU g0 g4 g1)
        by_cases g2 : 7 < fa v
        · exact BAD (fun _ _ q => q) (bad_3 h hal hok hlw hk hkm hy hv hU g0 g4 g1 g2)
        by_cases g3 : 7 < fb v
        · exact BAD (fun _ _ q => q) (bad_4 h hal hok hlw hk hkm hy hv hU g0 g4 g1 g2 g3)
        · exfalso
          unfold goodW at hg
          rw [show decide (f0 v = 0) = true by simpa using g0, show decide (fd v < 8) = true by simp; omega, show decide (fa v < 8) = true by simp; omega, show decide (fb v < 8) = true by simp; omega, show decide (ft v ≤ 5) = true by simp; omega] at hg
          cases hg
      · exact BAD (fun _ _ q => q) (bad_0 h hal hok hlw hk hkm hy hv hU g0)
    | true =>
      rw [if_pos rfl]
      have hyo := hal y (List.mem_of_getElem? hy)
      have hpl := (List.getElem?_eq_some_iff.1 hv).1
      unfold goodW at hg
      simp only [Bool.and_eq_true, decide_eq_true_eq] at hg
      obtain ⟨⟨⟨⟨g0, g1⟩, g2⟩, g3⟩, g4⟩ := hg
      have ht0 : 0 ≤ ft v := by unfold ft; omega
      have hi0 : 0 ≤ fi v := by unfold fi; omega
      have hi1 : fi v ≤ 4294967295 := by unfold fi; omega
      obtain ⟨d, hd⟩ : ∃ d : Nat, fd v = (d : Int) := ⟨(fd v).toNat, by unfold fd; omega⟩
      obtain ⟨a, ha⟩ : ∃ a : Nat, fa v = (a : Int) := ⟨(fa v).toNat, by unfold fa; omega⟩
      obtain ⟨b, hb⟩ : ∃ b : Nat, fb v = (b : Int) := ⟨(fb v).toNat, by unfold fb; omega⟩
      obtain ⟨m, hm⟩ : ∃ m : Nat, fi v = (m : Int) := ⟨(fi v).toNat, by omega⟩
      have P : Pts v (fo v) (ft v) d a b (fi v) := ⟨part_fo v hU, part_ft v hU, fun X => by have := part_fd v hU X; rw [hd] at this; exact this, fun X => by have := part_fa v hU X; rw [ha] at this; exact this, fun X => by have := part_fb v hU X; rw [hb] at this; exact this, fun X => by have := part_f0 v hU X; rw [g0] at this; exact this, part_fi v hU⟩
      have hd8 : d < 8 := by omega
      have ha8 : a < 8 := by omega
      have hb8 : b < 8 := by omega
      obtain ⟨xa, hxa⟩ := get_of_lt (l := y.c.rg) (k := a) (by rw [hyo.rg]; exact ha8)
      obtain ⟨xb, hxb⟩ := get_of_lt (l := y.c.rg) (k := b) (by rw [hyo.rg]; exact hb8)
      have D1 := D.mono hN
      have hon : onP cls y.c = cls.set k { y.c with pl := y.c.pl + 1 } := by unfold onP; rw [show cls.length - 1 = k by omega]
      have hokp : ∀ q, q ≤ 4294967296 → ({ y.c with pl := q } : Cl).ok := fun q hq => ⟨hyo.rg, hyo.gt, hyo.rd, hq, hyo.ba, hyo.an⟩
      have ed : (fd v).toNat = d := by rw [hd]; rfl
      have ea : (fa v).toNat = a := by rw [ha]; rfl
      have eb : (fb v).toNat = b := by rw [hb]; rfl
      have em : (fi v).toNat = m := by rw [hm]; rfl
      have ex1 : y.c.rg.getD (fa v).toNat 0 = xa := by rw [ea, List.getD_eq_getElem?_getD, hxa]; rfl
      have ey1 : y.c.rg.getD (fb v).toNat 0 = xb := by rw [eb, List.getD_eq_getElem?_getD, hxb]; rfl
      rw [hon]
      unfold doP
      dsimp only
      rw [ex1, ey1, ed, em, List.length_set, show cls.length - 1 = k by omega]
      simp only [List.set_set]
      -- the plain lists behind the step
      have GO1 : ∀ {mem' : List Int} {tr' : List Int}, mem'.length = mem.length → tr'.length ≤ n + 1 → DL mem' (l.set k { y with c := { y.c with pl := y.c.pl + 1 } }) (cls.set k { y.c with pl := y.c.pl + 1 }) tr' (n + 1) := fun h1 h2 => D1.set (y' := { y with c := { y.c with pl := y.c.pl + 1 } }) hk hy rfl rfl (hokp _ (by omega)) h1 h2 hN
      by_cases o33 : fo v = 33
      · rw [if_pos o33]
        rw [o33] at P
        have hS : ∀ q : Nat, q ≤ 4294967296 → DL mem (l.set k ({ y with c := { y.c with pl := q }, d := (d : Int) } : Dc)) (cls.set k { y.c with pl := q }) tr (n + 1) := fun q hq => by
          refine ⟨by rw [D1.cl, List.map_set], fun x hx => ?_, fun j a' b' h1 h2 => ?_, fun j a' b' h1 h2 => ?_, fun j a' h1 => ?_, D1.ml, by rw [List.length_set]; exact D1.cll, D1.trl, hN⟩
          · rcases List.mem_or_eq_of_mem_set hx with q' | rfl
            · exact hal x q'
            · exact hokp q hq
          · rw [set_last hk] at h1 h2
            have hj : j + 1 ≤ k := by
              split at h2
              · omega
              · have := (List.getElem?_eq_some_iff.1 h2).1; omega
            rw [if_neg (by omega)] at h1
            by_cases e : j + 1 = k
            · rw [if_pos e] at h2
              obtain rfl := Option.some.inj h2
              exact D1.an j a' y h1 (by rw [e]; exact hy)
            · rw [if_neg e] at h2
              exact D1.an j a' b' h1 h2
          · rw [set_last hk] at h1 h2
            have hj : j + 1 ≤ k := by
              split at h2
              · omega
              · have := (List.getElem?_eq_some_iff.1 h2).1; omega
            rw [if_neg (by omega)] at h1
            by_cases e : j + 1 = k
            · rw [if_pos e] at h2
              obtain rfl := Option.some.inj h2
              exact D1.up j a' y h1 (by rw [e]; exact hy)
            · rw [if_neg e] at h2
              exact D1.up j a' b' h1 h2
          · rw [set_last hk] at h1
            by_cases e : j = k
            · rw [if_pos e] at h1
              obtain rfl := Option.some.inj h1
              exact D1.top k y hy
            · rw [if_neg e] at h1
              exact D1.top j a' h1
        unfold beginP
        rw [List.length_set]
        by_cases hst1 : im.st.length ≤ m
        · rw [if_pos (Or.inl hst1)]
          exact BAD (fun _ _ q => q) (tp_33 h hal hok hlw hk hkm hy hv P ht0 g4 hd8 ha8 hb8 hi0 hi1 hxa hxb (by omega))
        · have hfl : im.fr.length = im.st.length := by unfold formP at hF; simp only [Bool.and_eq_true, decide_eq_true_eq] at hF; exact hF.1.1.1.2
          have hall : allP im.ws.length im.st im.fr = true := by unfold formP at hF; simp only [Bool.and_eq_true, decide_eq_true_eq] at hF; exact hF.2
          obtain ⟨s, hs⟩ := get_of_lt (l := im.st) (k := m) (by omega)
          obtain ⟨f, hf⟩ := get_of_lt (l := im.fr) (k := m) (by omega)
          have hone := allP_at hall hs hf
          unfold oneP at hone
          simp only [Bool.and_eq_true, decide_eq_true_eq] at hone
          obtain ⟨s', rfl⟩ : ∃ s' : Nat, s = (s' : Int) := ⟨s.toNat, by omega⟩
          obtain ⟨f', rfl⟩ : ∃ f' : Nat, f = (f' : Int) := ⟨f.toNat, by omega⟩
          have es : im.st.getD m 0 = (s' : Int) := by rw [List.getD_eq_getElem?_getD, hs]; rfl
          have ef : im.fr.getD m 0 = (f' : Int) := by rw [List.getD_eq_getElem?_getD, hf]; rfl
          rw [es, ef]
          by_cases hdeep : 2000 ≤ l.length
          · rw [if_pos (Or.inr (by have := D1.cll; omega))]
            by_cases ht : 65536 - (mem.length : Int) < (f' : Int)
            · exact BADL (fun _ _ q => q) (tp_33t h hal hok hlw hk hkm hy hv P ht0 g4 hd8 ha8 hb8 hi0 hi1 hxa hxb m f' s' hm hf hs D1.ml ht)
            · exact BADL (fun _ _ q => q) (tp_33d h hal hok hlw hk hkm hy hv P ht0 g4 hd8 ha8 hb8 hi0 hi1 hxa hxb m f' s' hm hf hs D1.ml ht hdeep)
          · rw [if_neg (by omega)]
            by_cases ht : 65536 - (mem.length : Int) < (f' : Int)
            · rw [if_pos ht]
              exact BADL (fun _ _ q => q) (tp_33t h hal hok hlw hk hkm hy hv P ht0 g4 hd8 ha8 hb8 hi0 hi1 hxa hxb m f' s' hm hf hs D1.ml ht)
            · rw [if_neg ht]
              refine (st_33 h hal hok hlw hk hkm hy hv P ht0 g4 hd8 ha8 hb8 hi0 hi1 hxa hxb m f' s' hm hf hs D1.ml ht (by omega)).mono ?_
              rintro e w' ⟨he, col', cv', kv', h1, h2⟩
              have DS := hS (y.c.pl + 1) (by omega)
              have hlen : (l.set k ({ y with c := { y.c with pl := y.c.pl + 1 }, d := (d : Int) } : Dc)).length = k + 1 := by rw [List.length_set]; omega
              have DP := DS.push (k := k) (Or.inl hlen.symm) (newC s' mem.length m d y.c.rd) (fun z hz => by
                rw [List.getElem?_set_self (by omega)] at hz
                obtain rfl := Option.some.inj hz
                rfl) rfl ⟨rfl, hyo.rd, rfl, by show s' ≤ _; omega, by show mem.length ≤ _; exact D1.ml, hd8⟩ f' ht (by omega)
              exact sp_go he h1 h2 DP
      rw [if_neg o33]
      by_cases o37 : fo v = 37
      · rw [if_pos o37]
        rw [o37] at P
        have htop := D.top k y hy
        by_cases hk0 : k = 0
        · rw [if_pos (by omega)]
          refine (st_37l h hal hok hlw hk hkm hy hv P ht0 g4 hd8 ha8 hb8 hi0 hi1 hxa hxb htop hk0).mono ?_
          rintro e w' ⟨he, m', l', cv', kv', h1, h2⟩
          exact ⟨he, _, _, _, _, _, _, h1, h2⟩
        · rw [if_neg (by omega)]
          obtain ⟨k1, hk1⟩ : ∃ k1, k = k1 + 1 := ⟨k - 1, by omega⟩
          obtain ⟨p, hp⟩ := get_of_lt (l := l) (k := k1) (by omega)
          have hpo := hal p (List.mem_of_getElem? hp)
          have hpd := D.an k1 p y hp (by rw [← hk1]; exact hy)
          rw [show cls.length - 2 = k1 by omega, List.getElem?_set_ne (by omega), D.at hp]
          dsimp only
          refine (st_37m h hal hok hlw hk hkm hy hv P ht0 g4 hd8 ha8 hb8 hi0 hi1 hxa hxb htop hk1 hp hyo.an hpd).mono ?_
          rintro e w' ⟨he, cv', kv', h1, h2⟩
          have DP := D1.pop (k1 := k1) (y' := { p with c := { p.c with rg := p.c.rg.set y.c.an xa } }) (by omega) (by rw [← hk1]; exact hy) hp ⟨by rw [List.length_set]; exact hpo.rg, hpo.gt, hpo.rd, hpo.pl, hpo.ba, hpo.an⟩ rfl rfl D1.trl hN
          rw [← hk1] at DP
          have e1 : (cls.set k { y.c with pl := y.c.pl + 1 }).take k = cls.take k := List.take_set_of_le (Nat.le_refl _)
          rw [e1]
          exact sp_go he h1 h2 DP
      rw [if_neg o37]
      by_cases o35 : fo v = 35
      · rw [if_pos o35]
        rw [o35] at P
        refine (st_35 h hal hok hlw hk hkm hy hv P ht0 g4 hd8 ha8 hb8 hi0 hi1 hxa hxb m hm).mono ?_
        rintro e w' ⟨he, cv', kv', h1, h2⟩
        exact sp_go he h1 h2 (D1.set (y' := { y with c := { y.c with pl := m } }) hk hy rfl rfl (hokp _ (by omega)) rfl D1.trl hN)
      rw [if_neg o35]
      by_cases o36 : fo v = 36
      · rw [if_pos o36]
        rw [o36] at P
        by_cases hz : xa = 0
        · rw [if_pos hz]
          refine (st_36z h hal hok hlw hk hkm hy hv P ht0 g4 hd8 ha8 hb8 hi0 hi1 hxa hxb m hm hz).mono ?_
          rintro e w' ⟨he, cv', kv', h1, h2⟩
          exact sp_go he h1 h2 (D1.set (y' := { y with c := { y.c with pl := m } }) hk hy rfl rfl (hokp _ (by omega)) rfl D1.trl hN)
        · rw [if_neg hz]
          refine (st_36n h hal hok hlw hk hkm hy hv P ht0 g4 hd8 ha8 hb8 hi0 hi1 hxa hxb hz).mono ?_
          rintro e w' ⟨he, cv', kv', h1, h2⟩
          exact sp_go he h1 h2 (GO1 rfl D1.trl)
      rw [if_neg o36]
      by_cases o34 : fo v = 34
      · rw [if_pos o34]
        rw [o34] at P
        refine (st_34 h hal hok hlw hk hkm hy hv P ht0 g4 hd8 ha8 hb8 hi0 hi1 hxa hxb (Nat.le_succ_of_le D.trl) hN).mono ?_
        rintro e w' ⟨he, col', cv', kv', tv', h1, h2⟩
        exact sp_go he h1 h2 (GO1 rfl (by rw [List.length_append]; have := D.trl; simp; omega))
      rw [if_neg o34]
      by_cases o32 : fo v = 32
      · rw [if_pos o32]
        rw [o32] at P
        by_cases h6 : 6 ≤ fi v
        · rw [if_pos h6]
          exact BAD (fun _ _ q => q) (tp_32 h hal hok hlw hk hkm hy hv P ht0 g4 hd8 ha8 hb8 hi0 hi1 hxa hxb (by omega))
        · rw [if_neg h6]
          refine (st_32 h hal hok hlw hk hkm hy hv P ht0 g4 hd8 ha8 hb8 hi0 hi1 hxa hxb m hm (by omega)).mono ?_
          rintro e w' ⟨he, cv', kv', h1, h2⟩
          exact sp_go he h1 h2 (D1.set (y' := { y with c := { y.c with pl := y.c.pl + 1, rd := y.c.rd.set m xa } }) hk hy rfl rfl ⟨hyo.rg, hyo.gt, by rw [List.length_set]; exact hyo.rd, by show y.c.pl + 1 ≤ _; omega, hyo.ba, hyo.an⟩ rfl D1.trl hN)
      rw [if_neg o32]
      by_cases o31 : fo v = 31
      · rw [if_pos o31]
        rw [o31] at P
        unfold storeP
        cases hin : inM mem xa with
        | false =>
          rw [if_neg (by simp)]
          unfold inM at hin
          by_cases hn0 : xa < 0
          · exact BAD (fun _ _ q => q) (tp_31n h hal hok hlw hk hkm hy hv P ht0 g4 hd8 ha8 hb8 hi0 hi1 hxa hxb hn0)
          · exact BAD (fun _ _ q => q) (tp_31g h hal hok hlw hk hkm hy hv P ht0 g4 hd8 ha8 hb8 hi0 hi1 hxa hxb hn0 (by simp at hin; omega))
        | true =>
          rw [if_pos rfl]
          unfold inM at hin
          simp only [Bool.and_eq_true, decide_eq_true_eq] at hin
          obtain ⟨u, hu⟩ := get_of_lt (l := mem) (k := xa.toNat) (by omega)
          refine (st_31 h hal hok hlw hk hkm hy hv P ht0 g4 hd8 ha8 hb8 hi0 hi1 hxa hxb xa.toNat u (by omega) hu).mono ?_
          rintro e w' ⟨he, cv', kv', h1, h2⟩
          exact sp_go he h1 h2 (GO1 (by rw [List.length_set]) D1.trl)
      rw [if_neg o31]
      by_cases o39 : fo v = 39
      · rw [if_pos o39]
        rw [o39] at P
        unfold storeP
        cases hin : inM mem ((y.c.ba : Int) + fi v) with
        | false =>
          rw [if_neg (by simp)]
          unfold inM at hin
          exact BAD (fun _ _ q => q) (tp_39g h hal hok hlw hk hkm hy hv P ht0 g4 hd8 ha8 hb8 hi0 hi1 hxa hxb (by simp at hin; omega))
        | true =>
          rw [if_pos rfl]
          unfold inM at hin
          simp only [Bool.and_eq_true, decide_eq_true_eq] at hin
          obtain ⟨u, hu⟩ := get_of_lt (l := mem) (k := ((y.c.ba : Int) + fi v).toNat) (by omega)
          refine (st_39 h hal hok hlw hk hkm hy hv P ht0 g4 hd8 ha8 hb8 hi0 hi1 hxa hxb ((y.c.ba : Int) + fi v).toNat u (by omega) hu).mono ?_
          rintro e w' ⟨he, cv', kv', h1, h2⟩
          exact sp_go he h1 h2 (GO1 (by rw [List.length_set]) D1.trl)
      rw [if_neg o39]
      -- what writes a register, or traps
      have VAL : ∀ (x q : Int), (q = 0 → Calls Try.prog 19 #[.pointer (some ⟨R, 0, none⟩)] w fun e w' => e = .returned (.tuple #[]) ∧ ∃ kv', DX w' w0 R col im mem (l.set k { y with c := { y.c with pl := y.c.pl + 1, rg := y.c.rg.set d x } }) tr false 0 0 false (n + 1) cv kv' tv ∧ Ex col w col w') →
          (q ≠ 0 → Calls Try.prog 19 #[.pointer (some ⟨R, 0, none⟩)] w fun e w' => e = .returned (.tuple #[]) ∧ ∃ kv', DX w' w0 R col im mem l tr false 0 q false (n + 1) cv kv' tv ∧ Ex col w col w') →
          Calls Try.prog 19 #[.pointer (some ⟨R, 0, none⟩)] w (SP w w0 R col im tr (n + 1) (if q = 0 then .go mem (cls.set k { y.c with pl := y.c.pl + 1, rg := y.c.rg.set d x }) tr else .stop q)) := fun x q h0 h1 => by
        by_cases hq : q = 0
        · rw [if_pos hq]
          refine (h0 hq).mono ?_
          rintro e w' ⟨he, kv', k1, k2⟩
          exact sp_go he k1 k2 (D1.set (y' := { y with c := { y.c with pl := y.c.pl + 1, rg := y.c.rg.set d x } }) hk hy rfl rfl ⟨by rw [List.length_set]; exact hyo.rg, hyo.gt, hyo.rd, by show y.c.pl + 1 ≤ _; omega, hyo.ba, hyo.an⟩ rfl D1.trl hN)
        · rw [if_neg hq]
          refine (h1 hq).mono ?_
          rintro e w' ⟨he, kv', k1, k2⟩
          exact sp_stop he hq k1 k2
      refine VAL _ _ ?_ ?_
      · intro hq
        unfold val2 at hq
        unfold val1
        dsimp only at hq ⊢
        by_cases o20 : fo v = 20
        · rw [o20] at P; rw [if_pos o20]; exact st_20 h hal hok hlw hk hkm hy hv P ht0 g4 hd8 ha8 hb8 hi0 hi1 hxa hxb
        rw [if_neg o20] at hq ⊢
        by_cases o21 : fo v = 21
        · rw [o21] at P; rw [if_pos o21]; exact st_21 h hal hok hlw hk hkm hy hv P ht0 g4 hd8 ha8 hb8 hi0 hi1 hxa hxb
        rw [if_neg o21] at hq ⊢
        by_cases o22 : fo v = 22
        · rw [o22] at P; rw [if_pos o22] at hq ⊢; exact st_22 h hal hok hlw hk hkm hy hv P ht0 g4 hd8 ha8 hb8 hi0 hi1 hxa hxb hq
        rw [if_neg o22] at hq ⊢
        by_cases o23 : fo v = 23
        · rw [o23] at P; rw [if_pos o23] at hq ⊢; exact st_23 h hal hok hlw hk hkm hy hv P ht0 g4 hd8 ha8 hb8 hi0 hi1 hxa hxb hq
        rw [if_neg o23] at hq ⊢
        by_cases o24 : fo v = 24
        · rw [o24] at P; rw [if_pos o24] at hq ⊢; exact st_24 h hal hok hlw hk hkm hy hv P ht0 g4 hd8 ha8 hb8 hi0 hi1 hxa hxb hq
        rw [if_neg o24] at hq ⊢
        by_cases o25 : fo v = 25
        · rw [o25] at P; rw [if_pos o25]; exact st_25 h hal hok hlw hk hkm hy hv P ht0 g4 hd8 ha8 hb8 hi0 hi1 hxa hxb
        rw [if_neg o25] at hq ⊢
        by_cases o26 : fo v = 26
        · rw [o26] at P; rw [if_pos o26]; exact st_26 h hal hok hlw hk hkm hy hv P ht0 g4 hd8 ha8 hb8 hi0 hi1 hxa hxb
        rw [if_neg o26] at hq ⊢
        by_cases o27 : fo v = 27
        · rw [o27] at P; rw [if_pos o27]; exact st_27 h hal hok hlw hk hkm hy hv P ht0 g4 hd8 ha8 hb8 hi0 hi1 hxa hxb
        rw [if_neg o27] at hq ⊢
        by_cases o28 : fo v = 28
        · rw [o28] at P
          rw [if_pos o28] at hq ⊢
          have hb' : ¬ (xb < 0 ∨ fi v ≤ xb) := fun c => by rw [if_pos c] at hq; cases hq
          rw [if_neg hb']
          exact st_28 h hal hok hlw hk hkm hy hv P ht0 g4 hd8 ha8 hb8 hi0 hi1 hxa hxb (fun c => hb' (.inl c)) (fun c => hb' (.inr c))
        rw [if_neg o28] at hq ⊢
        by_cases o29 : fo v = 29
        · rw [o29] at P; rw [if_pos o29]; exact st_29 h hal hok hlw hk hkm hy hv P ht0 g4 hd8 ha8 hb8 hi0 hi1 hxa hxb
        rw [if_neg o29] at hq ⊢
        by_cases o30 : fo v = 30
        · rw [o30] at P
          rw [if_pos o30] at hq ⊢
          have hin : inM mem xa = true := by
            cases e : inM mem xa with
            | true => rfl
            | false => rw [e, if_neg (by simp)] at hq; cases hq
          rw [hin, if_pos rfl]
          unfold inM at hin
          simp only [Bool.and_eq_true, decide_eq_true_eq] at hin
          obtain ⟨u, hu⟩ := get_of_lt (l := mem) (k := xa.toNat) (by omega)
          have eu : getM mem xa = u := by unfold getM; rw [List.getD_eq_getElem?_getD, hu]; rfl
          rw [eu]
          exact st_30 h hal hok hlw hk hkm hy hv P ht0 g4 hd8 ha8 hb8 hi0 hi1 hxa hxb xa.toNat u (by omega) hu
        rw [if_neg o30] at hq ⊢
        by_cases o38 : fo v = 38
        · rw [o38] at P
          rw [if_pos o38] at hq ⊢
          have hin : inM mem ((y.c.ba : Int) + fi v) = true := by
            cases e : inM mem ((y.c.ba : Int) + fi v) with
            | true => rfl
            | false => rw [e, if_neg (by simp)] at hq; cases hq
          rw [hin, if_pos rfl]
          unfold inM at hin
          simp only [Bool.and_eq_true, decide_eq_true_eq] at hin
          obtain ⟨u, hu⟩ := get_of_lt (l := mem) (k := ((y.c.ba : Int) + fi v).toNat) (by omega)
          have eu : getM mem ((y.c.ba : Int) + fi v) = u := by unfold getM; rw [List.getD_eq_getElem?_getD, hu]; rfl
          rw [eu]
          exact st_38 h hal hok hlw hk hkm hy hv P ht0 g4 hd8 ha8 hb8 hi0 hi1 hxa hxb ((y.c.ba : Int) + fi v).toNat u (by omega) hu
        rw [if_neg o38] at hq ⊢
        by_cases o40 : fo v = 40
        · rw [o40] at P
          rw [if_pos o40] at hq ⊢
          have h6 : ¬ 6 ≤ fi v := fun c => by rw [if_pos c] at hq; cases hq
          rw [if_neg h6, em]
          obtain ⟨u, hu⟩ := get_of_lt (l := y.c.gt) (k := m) (by rw [hyo.gt]; omega)
          have eu : y.c.gt.getD m 0 = u := by rw [List.getD_eq_getElem?_getD, hu]; rfl
          rw [eu]
          exact st_40 h hal hok hlw hk hkm hy hv P ht0 g4 hd8 ha8 hb8 hi0 hi1 hxa hxb m u hm hu
        rw [if_neg o40] at hq ⊢
        exact st_do h hal hok hlw hk hkm hy hv P ht0 g4 hd8 ha8 hb8 hi0 hi1 hxa hxb (fun j h1 h2 => by omega) hq
      · intro hq
        unfold val2 at hq ⊢
        dsimp only at hq ⊢
        by_cases o20 : fo v = 20
        · rw [if_pos o20] at hq; exact (hq rfl).elim
        rw [if_neg o20] at hq ⊢
        by_cases o21 : fo v = 21
        · rw [if_pos o21] at hq; exact (hq rfl).elim
        rw [if_neg o21] at hq ⊢
        by_cases o22 : fo v = 22
        · rw [o22] at P; rw [if_pos o22] at hq ⊢; exact tp_22 h hal hok hlw hk hkm hy hv P ht0 g4 hd8 ha8 hb8 hi0 hi1 hxa hxb _ rfl hq
        rw [if_neg o22] at hq ⊢
        by_cases o23 : fo v = 23
        · rw [o23] at P; rw [if_pos o23] at hq ⊢; exact tp_23 h hal hok hlw hk hkm hy hv P ht0 g4 hd8 ha8 hb8 hi0 hi1 hxa hxb _ rfl hq
        rw [if_neg o23] at hq ⊢
        by_cases o24 : fo v = 24
        · rw [o24] at P; rw [if_pos o24] at hq ⊢; exact tp_24 h hal hok hlw hk hkm hy hv P ht0 g4 hd8 ha8 hb8 hi0 hi1 hxa hxb _ rfl hq
        rw [if_neg o24] at hq ⊢
        by_cases o25 : fo v = 25
        · rw [if_pos o25] at hq; exact (hq rfl).elim
        rw [if_neg o25] at hq ⊢
        by_cases o26 : fo v = 26
        · rw [if_pos o26] at hq; exact (hq rfl).elim
        rw [if_neg o26] at hq ⊢
        by_cases o27 : fo v = 27
        · rw [if_pos o27] at hq; exact (hq rfl).elim
        rw [if_neg o27] at hq ⊢
        by_cases o28 : fo v = 28
        · rw [o28] at P
          rw [if_pos o28] at hq ⊢
          by_cases hb' : xb < 0 ∨ fi v ≤ xb
          · rw [if_pos hb']
            by_cases hx0 : xb < 0
            · exact tp_28n h hal hok hlw hk hkm hy hv P ht0 g4 hd8 ha8 hb8 hi0 hi1 hxa hxb hx0
            · exact tp_28g h hal hok hlw hk hkm hy hv P ht0 g4 hd8 ha8 hb8 hi0 hi1 hxa hxb hx0 (hb'.resolve_left hx0)
          · rw [if_neg hb'] at hq; exact (hq rfl).elim
        rw [if_neg o28] at hq ⊢
        by_cases o29 : fo v = 29
        · rw [if_pos o29] at hq; exact (hq rfl).elim
        rw [if_neg o29] at hq ⊢
        by_cases o30 : fo v = 30
        · rw [o30] at P
          rw [if_pos o30] at hq ⊢
          cases hin : inM mem xa with
          | true => rw [hin, if_pos rfl] at hq; exact (hq rfl).elim
          | false =>
            rw [if_neg (by simp)]
            unfold inM at hin
            by_cases hn0 : xa < 0
            · exact tp_30n h hal hok hlw hk hkm hy hv P ht0 g4 hd8 ha8 hb8 hi0 hi1 hxa hxb hn0
            · exact tp_30g h hal hok hlw hk hkm hy hv P ht0 g4 hd8 ha8 hb8 hi0 hi1 hxa hxb hn0 (by simp at hin; omega)
        rw [if_neg o30] at hq ⊢
        by_cases o38 : fo v = 38
        · rw [o38] at P
          rw [if_pos o38] at hq ⊢
          cases hin : inM mem ((y.c.ba : Int) + fi v) with
          | true => rw [hin, if_pos rfl] at hq; exact (hq rfl).elim
          | false =>
            rw [if_neg (by simp)]
            unfold inM at hin
            exact tp_38g h hal hok hlw hk hkm hy hv P ht0 g4 hd8 ha8 hb8 hi0 hi1 hxa hxb (by simp at hin; omega)
        rw [if_neg o38] at hq ⊢
        by_cases o40 : fo v = 40
        · rw [o40] at P
          rw [if_pos o40] at hq ⊢
          by_cases h6 : 6 ≤ fi v
          · rw [if_pos h6]
            exact tp_40 h hal hok hlw hk hkm hy hv P ht0 g4 hd8 ha8 hb8 hi0 hi1 hxa hxb (by omega)
          · rw [if_neg h6] at hq; exact (hq rfl).elim
        rw [if_neg o40] at hq ⊢
        exact tp_do h hal hok hlw hk hkm hy hv P ht0 g4 hd8 ha8 hb8 hi0 hi1 hxa hxb (fun j h1 h2 => by omega) _ rfl hq (do2_bd _ _ _ _).1 (do2_bd _ _ _ _).2
end
end Da
end Go.Proofs.Ytnlgkiejppgfjaa

namespace Go.Proofs.Ytnlgkiejppgfjaa
open Go.RowKit Go.Deep
set_option linter.unusedVariables false

namespace Da
section
variable {w w' w0 : World} {R : Nat} {col col' : Col} {im : PIm} {mem : List Int} {l : List Dc} {cls : List Cl} {tr : List Int} {n : Nat} {cv kv tv : Value}

theorem bjR {X : World} (h : Q ((bxJ w im).alloc (.cells z0A 31)) X) : X.heap[w.heap.size + 1]? = some (.cells z0A 31 (0, 0)) ∧ Q (bxJ w im) X :=
  ⟨(h.block _ (by simp)).trans (heap_at (by simp)), ((Q.refl (bxJ w im)).alloc _).trans h⟩
theorem bjR2 {X : World} (h : Q ((bxJ w im).alloc (.cells z0A 31)) X) : (X.cell? ⟨w.heap.size + 1, 0, none⟩ = some (.bool false) ∧ X.cell? ⟨w.heap.size + 1, 1, none⟩ = some (.int .i64 0) ∧ X.cell? ⟨w.heap.size + 1, 2, none⟩ = some (.int .u8 0) ∧ X.cell? ⟨w.heap.size + 1, 3, none⟩ = some (.bool false) ∧ X.cell? ⟨w.heap.size + 1, 4, none⟩ = some (.int .i64 0) ∧ X.cell? ⟨w.heap.size + 1, 5, none⟩ = some (.slice none 0 0)) ∧ (X.frozen? ⟨w.heap.size + 1, 0, none⟩ = false ∧ X.frozen? ⟨w.heap.size + 1, 1, none⟩ = false ∧ X.frozen? ⟨w.heap.size + 1, 2, none⟩ = false ∧ X.frozen? ⟨w.heap.size + 1, 3, none⟩ = false ∧ X.frozen? ⟨w.heap.size + 1, 4, none⟩ = false ∧ X.frozen? ⟨w.heap.size + 1, 5, none⟩ = false) :=
  ⟨six_cells (bjR h).1, six_free (bjR h).1⟩

set_option maxRecDepth 100000 in
set_option maxHeartbeats 2000000 in
theorem rrun_bad (w : World) (hok : im.ok w) (fuel : Nat) (hf : fuel ≤ 8388608) (hF : formP im = false) : Calls Try.prog 10 #[im.v, .int .i64 (fuel : Int)] w fun e w' => e = .returned (.tuple #[zeroO, .int .i64 3]) ∧ Q w w' := by
  have hq : Q w ((bxJ w im).alloc (.cells z0A 31)) := ((Q.refl w).alloc _).alloc _
  have CF := hideIt (rform_any _ (hok.keep hq))
  rw [hF] at CF
  have d1 : decide ((fuel : Int) < 0) = false := by simp
  have d2 : decide (8388608 < (fuel : Int)) = false := by simp; omega
  obtain ⟨c0, c1, c2, c3⟩ := bxJ_at (bjR (Q.refl ((bxJ w im).alloc (.cells z0A 31)))).2
  have HX := hideIt (fun X (h : Q ((bxJ w im).alloc (.cells z0A 31)) X) => bjR2 h)
  have FIN := hideIt (show ∀ y, Q ((bxJ w im).alloc (.cells z0A 31)) y → (six y (w.heap.size + 1) (.bool false) (.int .i64 0) (.int .u8 0) (.bool false) (.int .i64 0) (.slice none 0 0)).heap[w.heap.size + 1]? = some (.cells z0A 31 (0, 0)) ∧ Q w (six y (w.heap.size + 1) (.bool false) (.int .i64 0) (.int .u8 0) (.bool false) (.int .i64 0) (.slice none 0 0)) from fun y hy => ⟨six_blk (bjR hy).1 _ _ _ _ _ _, six_q (hq.trans hy) (Nat.le_succ _) _ _ _ _ _ _⟩)
  clear hq hok hF
  go_enter Try.func10, Try.ntmps10
  go_wp2_with (first | (go_at_call 17; refine CF.out.mono ?_; rintro e y ⟨rfl, qy⟩; clear c0 c1 c2 c3; obtain ⟨⟨a0, a1, a2, a3, a4, a5⟩, b0, b1, b2, b3, b4, b5⟩ := HX.out y qy; have HF := hideIt (FIN.out y qy); clear qy) | fail)
  obtain ⟨bz, qz⟩ := HF.out
  dsimp only [six] at bz qz
  generalize hZ : ((((((y.setCell ⟨w.heap.size + 1, 0, none⟩ (.bool false)).setCell ⟨w.heap.size + 1, 1, none⟩ (.int .i64 0)).setCell ⟨w.heap.size + 1, 2, none⟩ (.int .u8 0)).setCell ⟨w.heap.size + 1, 3, none⟩ (.bool false)).setCell ⟨w.heap.size + 1, 4, none⟩ (.int .i64 0)).setCell ⟨w.heap.size + 1, 5, none⟩ (.slice none 0 0)) = Z at *
  obtain ⟨y0, y1, y2, y3, y4, y5⟩ := six_cells bz
  exact bodyPost_ret (v := .tuple #[zeroO, .int .i64 3]) (by simp [results, Try.results10, go_sem, y0, y1, y2, y3, y4, y5]) rfl ⟨rfl, qz⟩

/-- The machine as it is made. -/
theorem dx_new {X : World} {cv : Value} {R : Nat} (hX : Q w X) (hr : X.ownsRow w.heap.size 2 1 cv im.da.length (rowI im.da)) (hR : X.heap[R]? = some (.cells (dmc im cv (.slice none 0 0) (.slice none 0 0) false 0 0 false 0) 56 (0, 0))) (hw : w.heap.size ≤ R) (hne : cv.ownBlock ≠ some R) :
    ∃ col, DX X w R col im im.da [] [] false 0 0 false 0 cv (.slice none 0 0) (.slice none 0 0) ∧ ∀ b, b ≠ R → cv.ownBlock ≠ some b → col b = none := by
  refine ⟨fun b => if b = R then some .rn else if cv.ownBlock = some b then some .me else none, ⟨hX, fun b τ e => ?_, by simp, hR, hr, fun b q => ?_, World.ownsRow_nil _ _ _ _, (fun b q => by cases q), World.ownsRow_nil _ _ _ _, (fun b q => by cases q)⟩, fun b h1 h2 => by simp [h1, h2]⟩
  · by_cases e1 : b = R
    · subst e1; exact ⟨hw, lt_of_some hR⟩
    · simp only [e1, if_false] at e
      by_cases e2 : cv.ownBlock = some b
      · refine ⟨?_, own_lt hr e2⟩
        rcases hr.2 with ⟨q, -⟩ | ⟨g, cap, cur, q, hb, -⟩
        · rw [q] at e2; cases e2
        · rw [q] at e2; injection e2 with e2; subst e2; exact hb
      · simp [e2] at e
  · have : b ≠ R := fun e => hne (by rw [q, e])
    simp [this, q]
set_option maxRecDepth 100000 in
/-- The program's data behind nothing. -/
theorem app_data (X : World) (base : Nat) (hb : base ≤ X.heap.size) (hok : im.ok X) : ∃ v' X', (Builtin.append_ #[24, 24] 24 #[.slice none 0 0, .slice im.ea im.da.length im.ec]).run Try.prog X = .ok v' X' ∧ X'.ownsRow base 2 1 v' im.da.length (rowI im.da) ∧ X.grownBy X' none := by
  obtain ⟨h1, h2, h3, h4⟩ := hok.dsok
  cases hea : im.ea with
  | none =>
    rw [hea] at h3
    have hc := h3 rfl
    have hn : im.da = [] := List.eq_nil_of_length_eq_zero (by omega)
    rw [hc, hn]
    refine ⟨.slice none 0 0, X, ?_, World.ownsRow_nil _ _ _ _, ⟨rfl, rfl, rfl, Nat.le_refl _, fun _ _ _ => rfl⟩⟩
    obtain ⟨i0, hi9, hz0, hz1, hz2⟩ := info_parts infoI64
    simp [Builtin.append_, Try.underlying24, underlying, sizeOf, typeInfo, hi9, Builtin.lenOf, run_firstCells_none]
  | some a =>
    obtain ⟨i0, hi9, hz0, hz1, hz2⟩ := info_parts infoI64
    have h0 : X.ownsRow base 2 1 (.slice none 0 0) 0 [] := World.ownsRow_nil _ _ _ _
    obtain ⟨v', X', r1, r2, r3, -⟩ := run_append_own (P := Try.prog) X base 24 24 2 i0 (.int .i64 0) 1 8 Try.underlying24 hi9 hz0 hz1 hz2 rfl (by decide) (.slice none 0 0) 0 [] h0 a im.da.length im.ec (rowI im.da) (by rw [rowI_len, Nat.mul_one]) (fun j u hu => by
      rw [rowI_at] at hu
      cases hx : im.da[j]? with
      | none => rw [hx] at hu; cases hu
      | some x =>
        rw [hx] at hu
        obtain rfl := Option.some.inj hu
        obtain ⟨b, o, e, c⟩ := Ints.at hok.da hx
        rw [hea] at e
        injection e with e
        subst e
        rw [Addr.add_mid]
        exact c) (fun u hu => by unfold rowI at hu; obtain ⟨_, _, rfl⟩ := List.mem_map.1 hu; rfl) (by omega) (by omega) hb
    rw [Nat.zero_add, List.nil_append] at r2
    exact ⟨v', X', r1, r2, r3⟩
end
end Da
end Go.Proofs.Ytnlgkiejppgfjaa

namespace Go.Proofs.Ytnlgkiejppgfjaa
open Go.RowKit Go.Deep
set_option linter.unusedVariables false

namespace Da
section
variable {w w' w0 : World} {R : Nat} {col col' : Col} {im : PIm} {mem : List Int} {l : List Dc} {cls : List Cl} {tr : List Int} {n : Nat} {cv kv tv : Value}

/-- Where a run stands. -/
def StD (im : PIm) (fuel n : Nat) (hh : Bool) (x t : Int) (mem : List Int) (l : List Dc) (tr : List Int) (RES : Oc) : Prop :=
  (t = 0 ∧ hh = false ∧ ∃ cls, DL mem l cls tr n ∧ cls.length ≠ 0 ∧ loopP im (fuel - n) n mem cls tr = RES) ∨ (¬ (t = 0 ∧ hh = false) ∧ RES = ⟨hh, x, t, false, n, tr⟩)
def rkD (fuel n : Nat) (hh : Bool) (t : Int) : Nat := if t = 0 ∧ hh = false then fuel - n + 1 else 0
/-- What holds ahead of each round. -/
def RIv (w : World) (R : Nat) (im : PIm) (fuel : Nat) (RES : Oc) (g : Nat) (z : World) : Prop :=
  ∃ n hh x t col mem l tr cv kv tv, n ≤ fuel ∧ DX z w R col im mem l tr hh x t false n cv kv tv ∧ z.heap[w.heap.size + 1]? = some (.cells z0A 31 (0, 0)) ∧ col (w.heap.size + 1) = none ∧ StD im fuel n hh x t mem l tr RES ∧ rkD fuel n hh t ≤ g ∧ x = (if hh then x else 0)
abbrev y00 : Dc := ⟨⟨z8, z6, z6, 0, 0, 0⟩, 0, 0⟩
theorem y00_cs : y00.cs.toArray = z24 := rfl

/-- A step that goes on leaves a call. -/
theorem step_some {im : PIm} {mem : List Int} {cls : List Cl} {tr m s : List Int} {c : List Cl} (hn : cls.length ≠ 0) (h : stepP im mem cls tr = .go m c s) : c.length ≠ 0 := by
  obtain ⟨k, hk⟩ : ∃ k, k + 1 = cls.length := ⟨cls.length - 1, by omega⟩
  obtain ⟨y, hy⟩ := get_of_lt (show k < cls.length by omega)
  unfold stepP at h
  rw [show cls.length - 1 = k by omega, hy] at h
  dsimp only at h
  cases hv : im.ws[y.pl]? with
  | none => rw [hv] at h; cases h
  | some v =>
    rw [hv] at h
    dsimp only at h
    by_cases hg : goodW v = true
    · rw [if_pos hg] at h
      have hon : (onP cls y).length = cls.length := by unfold onP; rw [List.length_set]
      have fin : ∀ {m1 : List Int} {c1 : List Cl} {t1 : List Int}, Rs.go m1 c1 t1 = Rs.go m c s → c1.length ≠ 0 → c.length ≠ 0 := fun e q => by injection e with _ e _; subst e; exact q
      unfold doP at h
      by_cases o33 : fo v = 33
      · rw [if_pos o33] at h
        cases hb : beginP im (fi v).toNat y.rd (fd v).toNat mem (onP cls y) with
        | none => simp only at h; rw [hb] at h; cases h
        | some mc =>
          obtain ⟨m1, c1⟩ := mc
          simp only at h
          rw [hb] at h
          refine fin h ?_
          unfold beginP at hb
          split at hb
          · cases hb
          · split at hb
            · cases hb
            · have := Option.some.inj hb
              injection this with _ e
              rw [← e, List.length_append]
              simp
      rw [if_neg o33] at h
      by_cases o37 : fo v = 37
      · rw [if_pos o37] at h
        split at h
        · cases h
        · rename_i hlen
          split at h
          · cases h
          · refine fin h ?_
            rw [List.length_set, List.length_take]
            omega
      rw [if_neg o37] at h
      repeat' split at h
      all_goals first
        | cases h; done
        | (refine fin h ?_; first | (rw [List.length_set, hon]; exact hn) | (rw [hon]; exact hn))
        | (unfold storeP at h; split at h; first | (refine fin h ?_; rw [hon]; exact hn) | cases h)
        | skip
      all_goals first | (cases h; done) | (unfold storeP at h; split at h <;> first | (refine fin h ?_; rw [hon]; exact hn) | cases h)
    · rw [if_neg hg] at h; cases h
/-- The first call, at a machine that was just made. -/
theorem first_call {X : World} (hX : DX X w R col im im.da [] [] false 0 0 false 0 cv (.slice none 0 0) (.slice none 0 0)) (hb : X.heap[w.heap.size + 1]? = some (.cells z0A 31 (0, 0))) (hc : col (w.heap.size + 1) = none) (hok : im.ok w) (hF : formP im = true) (fuel : Nat) (s : Nat) (hs : im.st.length = s + 1) :
    Calls Try.prog 18 #[.pointer (some ⟨R, 0, none⟩), .int .i64 (s : Int), .agg z24] X fun e z => e = .returned (.tuple #[]) ∧ RIv w R im fuel (runP im fuel) (fuel + 1) z := by
  have hF2 := hF
  unfold formP at hF2
  simp only [Bool.and_eq_true, decide_eq_true_eq] at hF2
  obtain ⟨⟨⟨⟨-, hfl⟩, -⟩, hda⟩, hall⟩ := hF2
  obtain ⟨p, hp⟩ := get_of_lt (l := im.st) (k := s) (by omega)
  obtain ⟨f, hf⟩ := get_of_lt (l := im.fr) (k := s) (by omega)
  have hone := allP_at hall hp hf
  unfold oneP at hone
  simp only [Bool.and_eq_true, decide_eq_true_eq] at hone
  obtain ⟨p', rfl⟩ : ∃ p' : Nat, p = (p' : Int) := ⟨p.toNat, by omega⟩
  obtain ⟨f', rfl⟩ : ∃ f' : Nat, f = (f' : Int) := ⟨f.toNat, by omega⟩
  have es : im.st.getD s 0 = (p' : Int) := by rw [List.getD_eq_getElem?_getD, hp]; rfl
  have ef : im.fr.getD s 0 = (f' : Int) := by rw [List.getD_eq_getElem?_getD, hf]; rfl
  have hrun : runP im fuel = (match beginP im s z6 0 im.da [] with | none => ⟨false, 0, 5, false, 0, []⟩ | some (m, c) => loopP im fuel 0 m c []) := by unfold runP; rw [show im.st.length - 1 = s by omega]; rfl
  have y0k : y00.c.ok := ⟨rfl, rfl, rfl, Nat.zero_le _, Nat.zero_le _, by decide⟩
  have hlw := (form_len hF).1
  by_cases ht : 65536 - (im.da.length : Int) < (f' : Int)
  · have hb0 : beginP im s z6 0 im.da [] = none := by unfold beginP; rw [if_neg (by simp; omega), ef, if_pos ht]
    rw [hb0] at hrun
    refine (call_tight hX hok hda s f' hf y00 ht).mono ?_
    rintro e z ⟨rfl, m1, e1⟩
    refine ⟨rfl, 0, false, 0, 5, col, _, _, _, _, _, _, Nat.zero_le _, m1, (e1.block _ (lt_of_some hb) hc).trans hb, hc, .inr ⟨by decide, hrun⟩, by unfold rkD; simp, rfl⟩
  · have hb0 : beginP im s z6 0 im.da [] = some (im.da ++ List.replicate f' 0, [⟨z8, z6, z6, p', im.da.length, 0⟩]) := by
      unfold beginP
      rw [if_neg (by simp; omega), ef, if_neg ht, es]
      rfl
    rw [hb0] at hrun
    refine (call_ok hX hok hda s f' p' 0 hf hp y00 y0k ht (by simp)).mono ?_
    rintro e z ⟨rfl, col', cv', kv', m1, e1⟩
    have hdl0 : DL im.da ([] : List Dc) [] [] 0 := ⟨rfl, fun x hx => by simp at hx, fun k y y' h _ => by simp at h, fun k y y' h _ => by simp at h, fun k y h => by simp at h, hda, by simp, Nat.le_refl _, by decide⟩
    have hdl := hdl0.push (k := 0) (.inr rfl) (newC p' im.da.length s 0 z6) (fun z hz => by simp at hz) rfl ⟨rfl, rfl, rfl, by show p' ≤ _; omega, by show im.da.length ≤ _; exact hda, by show (0 : Nat) < 8; decide⟩ f' ht (by simp)
    refine ⟨rfl, 0, false, 0, 0, col', _, _, _, _, _, _, Nat.zero_le _, m1, (e1.block _ (lt_of_some hb) hc).trans hb, (e1.col _ (lt_of_some hb)).trans hc, .inl ⟨rfl, rfl, _, hdl, by simp, hrun.symm⟩, by unfold rkD; simp, rfl⟩

/-- A round's step. -/
theorem round_step {z : World} {x : Int} {fuel : Nat} {RES : Oc} (h : DX z w R col im mem l tr false x 0 false (n + 1) cv kv tv) (hx : x = 0) (hb : z.heap[w.heap.size + 1]? = some (.cells z0A 31 (0, 0))) (hc : col (w.heap.size + 1) = none) (D : DL mem l cls tr n) (hn : cls.length ≠ 0) (hL : loopP im (fuel - n) n mem cls tr = RES) (hnf : n < fuel) (hf : fuel ≤ 8388608) (hok : im.ok w) (hF : formP im = true) :
    Calls Try.prog 19 #[.pointer (some ⟨R, 0, none⟩)] z fun e y => e = .returned (.tuple #[]) ∧ RIv w R im fuel RES (fuel - n) y := by
  subst hx
  refine (step_dc h D hn (by omega) hok hF).mono ?_
  rintro e y ⟨rfl, hp⟩
  rw [show fuel - n = (fuel - (n + 1)) + 1 by omega, loopP] at hL
  cases hs : stepP im mem cls tr with
  | go m c s =>
    rw [hs] at hp hL
    obtain ⟨col', l', cv', kv', tv', m1, e1, d1⟩ := hp
    have hcl : c.length ≠ 0 := step_some hn hs
    exact ⟨rfl, n + 1, false, 0, 0, col', m, l', s, cv', kv', tv', by omega, m1, (e1.block _ (lt_of_some hb) hc).trans hb, (e1.col _ (lt_of_some hb)).trans hc, .inl ⟨rfl, rfl, c, d1, hcl, hL⟩, by unfold rkD; rw [if_pos ⟨rfl, rfl⟩]; omega, rfl⟩
  | stop q =>
    rw [hs] at hp hL
    obtain ⟨hq, col', m', l', cv', kv', tv', m1, e1⟩ := hp
    exact ⟨rfl, n + 1, false, 0, q, col', m', l', tr, cv', kv', tv', by omega, m1, (e1.block _ (lt_of_some hb) hc).trans hb, (e1.col _ (lt_of_some hb)).trans hc, .inr ⟨fun c => hq c.1, hL.symm⟩, by unfold rkD; rw [if_neg (fun c => hq c.1)]; exact Nat.zero_le _, rfl⟩
  | halt x =>
    rw [hs] at hp hL
    obtain ⟨col', m', l', cv', kv', tv', m1, e1⟩ := hp
    exact ⟨rfl, n + 1, true, x, 0, col', m', l', tr, cv', kv', tv', by omega, m1, (e1.block _ (lt_of_some hb) hc).trans hb, (e1.col _ (lt_of_some hb)).trans hc, .inr ⟨fun c => absurd c.2 (by simp), hL.symm⟩, by unfold rkD; rw [if_neg (fun c => absurd c.2 (by simp))]; exact Nat.zero_le _, rfl⟩
end
end Da
end Go.Proofs.Ytnlgkiejppgfjaa

namespace Go.Proofs.Ytnlgkiejppgfjaa
open Go.RowKit Go.Deep
set_option linter.unusedVariables false

namespace Da
theorem step_append_run {P : Program} {ops : Array Oper} {o : Oper} {a : Act} {w : World} {K : Act → World → Prop} {Q : Exit → Act → World → Prop} {E : Prop} (hgd : o.guard = none) (s x : Operand) (t tn : TypeId)
    (ho : o.op = .call { callee := .builtin .append, args := #[s, x], argTypes := #[t, tn] }) (vs vx : Value) (hs : a.eval s = vs) (hx : a.eval x = vx)
    (v' : Value) (w' : World) (hr : (Builtin.append_ #[t, tn] o.type #[vs, vx]).run P w = .ok v' w') (h : K (a.put o.dst v') w') :
    if Region.wanted o (yielded ops a.tmps) = true then Oper.wp P o a w K Q else E := by
  have hw : Region.wanted o (yielded ops a.tmps) = true := by simp [Region.wanted, hgd]
  rw [if_pos hw]
  exact Lib.wp_append_run w s x t tn ho vs vx hs hx v' w' hr h
section
variable {w w' w0 : World} {R : Nat} {col col' : Col} {im : PIm} {mem : List Int} {l : List Dc} {cls : List Cl} {tr : List Int} {n : Nat} {cv kv tv : Value}

set_option maxRecDepth 100000 in
set_option maxHeartbeats 4000000 in
theorem rrun_good (w : World) (hok : im.ok w) (fuel : Nat) (hf : fuel ≤ 8388608) (hF : formP im = true) : Calls Try.prog 10 #[im.v, .int .i64 (fuel : Int)] w fun e w' => ∃ v, e = .returned (.tuple #[v, .int .i64 0]) ∧ OutPost w (runP im fuel) v w' := by
  have hq : Q w ((bxJ w im).alloc (.cells z0A 31)) := ((Q.refl w).alloc _).alloc _
  have CF := hideIt (rform_any _ (hok.keep hq))
  rw [hF] at CF
  have d1 : decide ((fuel : Int) < 0) = false := by simp
  have d2 : decide (8388608 < (fuel : Int)) = false := by simp; omega
  obtain ⟨c0, c1, c2, c3⟩ := bxJ_at (bjR (Q.refl ((bxJ w im).alloc (.cells z0A 31)))).2
  have HI := hideIt (fun X (h : Q ((bxJ w im).alloc (.cells z0A 31)) X) => bxJ_at (im := im) (bjR h).2)
  obtain ⟨s, hs⟩ : ∃ s, im.st.length = s + 1 := ⟨im.st.length - 1, by have := (form_len hF).2; omega⟩
  have hsl : im.st.length ≤ 9223372036854775807 := hok.ssok.len
  have z1 : IntKind.i64.wrap ((s : Int) + 1 - 1) = (s : Int) := by rw [IntKind.wrap_i64]; omega
  have z2 : IntKind.i64.wrap (s : Int) = (s : Int) := by rw [IntKind.wrap_i64]; omega
  -- the append, at any world behind the machine's making
  have APP := hideIt (show ∀ y, Q ((bxJ w im).alloc (.cells z0A 31)) y → ∀ x, Q (y.alloc (.cells (dmc im (.slice none 0 0) (.slice none 0 0) (.slice none 0 0) false 0 0 false 0) 56)) x → ∃ va vc X', (Builtin.append_ #[24, 24] 24 #[.slice none 0 0, .slice im.ea im.da.length im.ec]).run Try.prog x = .ok (.slice va im.da.length vc) X' ∧ X'.cell? ⟨y.heap.size, 4, none⟩ = some (.slice none 0 0) ∧ X'.frozen? ⟨y.heap.size, 4, none⟩ = false ∧ (X'.setCell ⟨y.heap.size, 4, none⟩ (.slice va im.da.length vc)).cell? ⟨w.heap.size, 1, none⟩ = some (.slice im.sa im.st.length im.sc) ∧
      Calls Try.prog 18 #[.pointer (some ⟨y.heap.size, 0, none⟩), .int .i64 (s : Int), .agg z24] (X'.setCell ⟨y.heap.size, 4, none⟩ (.slice va im.da.length vc)) fun e z => e = .returned (.tuple #[]) ∧ RIv w y.heap.size im fuel (runP im fuel) (fuel + 1) z from fun y hy x hx => by
    have hyB := hq.trans hy
    have hxw : Q w x := (hyB.alloc _).trans hx
    obtain ⟨v', X', r1, r2, r3⟩ := app_data x x.heap.size (Nat.le_refl _) (hok.keep hxw)
    obtain ⟨va, vc, ev, -, -⟩ := own_form r2
    subst ev
    have hbx : x.heap[y.heap.size]? = some (.cells (dmc im (.slice none 0 0) (.slice none 0 0) (.slice none 0 0) false 0 0 false 0) 56 (0, 0)) := (hx.block _ (by simp)).trans (heap_new y _)
    have hltx := lt_of_some hbx
    have hbX : X'.heap[y.heap.size]? = some (.cells (dmc im (.slice none 0 0) (.slice none 0 0) (.slice none 0 0) false 0 0 false 0) 56 (0, 0)) := (r3.block _ hltx (fun e => by cases e)).trans hbx
    have hys := hyB.size
    have hyl : w.heap.size + 1 < y.heap.size := lt_of_some (bjR hy).1
    have hgv : ∀ b, (Value.slice va im.da.length vc).ownBlock = some b → x.heap.size ≤ b := fun b hb => by
      rcases r2.2 with ⟨q, -⟩ | ⟨g, cap, cur, q, hg, -⟩
      · rw [q] at hb; cases hb
      · rw [q] at hb; injection hb with hb; subst hb; exact hg
    have hq1 : Q w X' := by
      refine ⟨r3.os.trans hxw.os, r3.tape.trans hxw.tape, r3.output.trans hxw.output, Nat.le_trans hxw.size r3.size, fun k hk => (r3.block k (Nat.lt_of_lt_of_le hk hxw.size) (fun e => by cases e)).trans (hxw.block k hk)⟩
    have hne : (Value.slice va im.da.length vc).ownBlock ≠ some y.heap.size := fun e => by have := hgv _ e; omega
    have hbM : (X'.setCell ⟨y.heap.size, 4, none⟩ (.slice va im.da.length vc)).heap[y.heap.size]? = some (.cells (dmc im (.slice va im.da.length vc) (.slice none 0 0) (.slice none 0 0) false 0 0 false 0) 56 (0, 0)) := by
      rw [heap_setCell_same X' _ 4 _ _ (.slice va im.da.length vc) hbX]
      simp
    have oth : ∀ b, b ≠ y.heap.size → (X'.setCell ⟨y.heap.size, 4, none⟩ (.slice va im.da.length vc)).heap[b]? = X'.heap[b]? := fun b hb => heap_setCell_other X' _ b _ hb
    obtain ⟨col, hdx, hcol⟩ := dx_new (w := w) (im := im) (X := X'.setCell ⟨y.heap.size, 4, none⟩ (.slice va im.da.length vc)) (cv := (.slice va im.da.length vc)) (hq1.set (p := ⟨y.heap.size, 4, none⟩) hys (.slice va im.da.length vc)) (row_keep (own_mono r2 hxw.size) (fun b q => oth b (fun e => hne (by rw [← e]; exact q)))) hbM hys hne
    have hbo : (X'.setCell ⟨y.heap.size, 4, none⟩ (.slice va im.da.length vc)).heap[w.heap.size + 1]? = some (.cells z0A 31 (0, 0)) := by
      rw [oth _ (by omega), r3.block _ (by omega) (fun e => by cases e), hx.block _ (by simp; omega), Below.heap_alloc _ _ _ hyl]
      exact (bjR hy).1
    have hbi : (X'.setCell ⟨y.heap.size, 4, none⟩ (.slice va im.da.length vc)).cell? ⟨w.heap.size, 1, none⟩ = some (.slice im.sa im.st.length im.sc) := by
      have h1 := (HI.out y hy).2.1
      have hl1 := World.block_lt_of_cell? y _ h1
      rw [World.cell?_of_block (w := X') (oth _ (by show w.heap.size ≠ _; omega)), World.cell?_of_block (w := x) (r3.block _ (by show w.heap.size < _; omega) (fun e => by cases e))]
      exact cell_keep (((Q.refl y).alloc _).trans hx) h1
    exact ⟨va, vc, X', r1, cell_of_block hbX 4, free_of_block hbX 4, hbi, first_call hdx hbo (hcol _ (by omega) (fun e => by have := hgv _ e; omega)) hok hF fuel s hs⟩)
  generalize hRES : runP im fuel = RES at *
  have FIN := hideIt (show ∀ (z Z1 : World) (R : Nat) (col : Col) (mem : List Int) (l : List Dc) (tr : List Int) (hh : Bool) (x t : Int) (n : Nat) (cv kv : Value) (ta : Option Addr) (tc : Nat) (sp : Bool), DX z w R col im mem l tr hh x t sp n cv kv (.slice ta tr.length tc) → z.heap[w.heap.size + 1]? = some (.cells z0A 31 (0, 0)) → col (w.heap.size + 1) = none →
      (six z (w.heap.size + 1) (.bool hh) (.int .i64 x) (.int .u8 t) (.bool sp) (.int .i64 (n : Int)) (.slice ta tr.length tc)).heap[w.heap.size + 1]? = some (.cells (ocA hh x t sp n (.slice ta tr.length tc)) 31 (0, 0)) ∧ OutPost w ⟨hh, x, t, sp, n, tr⟩ (.agg (ocA hh x t sp n (.slice ta tr.length tc))) (six z (w.heap.size + 1) (.bool hh) (.int .i64 x) (.int .u8 t) (.bool sp) (.int .i64 (n : Int)) (.slice ta tr.length tc)) from fun z Z1 R col mem l tr hh x t n cv kv ta tc sp hd hb hc => by
    refine ⟨six_blk hb _ _ _ _ _ _, ta, tc, rfl, row_keep hd.tro (fun b q => six_oth z (fun e => ?_) _ _ _ _ _ _), six_q hd.bel (Nat.le_succ _) _ _ _ _ _ _⟩
    have := hd.trc b q
    rw [e, hc] at this
    cases this)
  have SETF := hideIt (show ∀ (z : World) (R : Nat) (col : Col) (mem : List Int) (l : List Dc) (tr : List Int) (n : Nat) (cv kv tv : Value), DX z w R col im mem l tr false 0 0 false n cv kv tv → z.heap[w.heap.size + 1]? = some (.cells z0A 31 (0, 0)) → col (w.heap.size + 1) = none → DX (z.setCell ⟨R, 9, none⟩ (.bool true)) w R col im mem l tr false 0 0 true n cv kv tv ∧ (z.setCell ⟨R, 9, none⟩ (.bool true)).heap[w.heap.size + 1]? = some (.cells z0A 31 (0, 0)) from fun z R col mem l tr n cv kv tv hd hb hc => by
    obtain ⟨m1, e1⟩ := hd.setO (j := 9) (u := .bool true) (hh' := false) (x' := 0) (t' := 0) (sp' := true) (n' := n) (by simp)
    exact ⟨m1, (e1.block _ (lt_of_some hb) hc).trans hb⟩)
  have STEP := hideIt (show ∀ (z : World) (R : Nat) (col : Col) (mem : List Int) (l : List Dc) (cls : List Cl) (tr : List Int) (n : Nat) (cv kv tv : Value), DX z w R col im mem l tr false 0 0 false n cv kv tv → z.heap[w.heap.size + 1]? = some (.cells z0A 31 (0, 0)) → col (w.heap.size + 1) = none → DL mem l cls tr n → cls.length ≠ 0 → loopP im (fuel - n) n mem cls tr = RES → n < fuel → Calls Try.prog 19 #[.pointer (some ⟨R, 0, none⟩)] (z.setCell ⟨R, 10, none⟩ (.int .i64 ((n : Int) + 1))) fun e y => e = .returned (.tuple #[]) ∧ RIv w R im fuel RES (fuel - n) y from fun z R col mem l cls tr n cv kv tv hd hb hc D hn hL hnf => by
    obtain ⟨m1, e1⟩ := hd.setO (j := 10) (u := .int .i64 ((n : Int) + 1)) (hh' := false) (x' := 0) (t' := 0) (sp' := false) (n' := n + 1) (by simp)
    exact round_step m1 rfl ((e1.block _ (lt_of_some hb) hc).trans hb) hc D hn hL hnf hf hok hF)
  have HRS := hideIt hRES
  have HS := hideIt (And.intro hs hsl)
  have HI2 := hideIt (fun y hy => HI.out y hy)
  clear hq hok hF hRES hsl hs
  go_enter Try.func10, Try.ntmps10
  go_wp2_with (first | (go_at_call 17; refine CF.out.mono ?_; rintro e y ⟨rfl, qy⟩; have HY := hideIt qy; clear c0 c1 c2 c3; obtain ⟨c0, c1, c2, c3⟩ := HI.out y qy; clear qy) | fail)
  go_upto_region 6 with (fail)
  obtain ⟨a0, a1, a2, a3⟩ := bxJ_at (im := im) (((bjR HY.out).2).alloc (.cells (dmc im (.slice none 0 0) (.slice none 0 0) (.slice none 0 0) false 0 0 false 0) 56))
  have m4 : (y.alloc (.cells (dmc im (.slice none 0 0) (.slice none 0 0) (.slice none 0 0) false 0 0 false 0) 56)).cell? ⟨y.heap.size, 4, none⟩ = some (.slice none 0 0) := cell_of_block (heap_new y _) 4
  obtain ⟨va, vc, X', r1, r2, r3, r4, r5⟩ := APP.out y HY.out _ (Q.drew (Q.refl _))
  have HR1 := hideIt r1
  have HC := hideIt r5
  have z3 : IntKind.i64.wrap ((im.st.length : Int) - 1) = (s : Int) := by have := HS.out.1; have := HS.out.2; rw [IntKind.wrap_i64]; omega
  dsimp only [dmc] at a0 a1 a2 a3 m4
  have hlt : w.heap.size + 1 < y.heap.size := lt_of_some (bjR HY.out).1
  generalize hR : y.heap.size = R at *
  have k3 := fun ob => cell_keep ((Q.refl y).alloc ob) c3
  have ne1 : ¬ w.heap.size = R := by omega
  have ne2 : ¬ w.heap.size + 1 = R := by omega
  clear r1 r5 z1 a0 a1 a2 a3 c0 c1 c2 c3
  go_region_law (refine step_append_run (by rfl) (.tmp 25) (.tmp 27) 24 24 (by rfl) (.slice none 0 0) (.slice im.ea im.da.length im.ec) (by rfl) (by rfl) _ _ HR1.out ?_)
  all_goals
    go_wp2_with (first | (go_at_call 18; refine HC.out.mono ?_; rintro e z ⟨rfl, hz⟩; have HZ := hideIt hz; clear hz) | fail)
    go_loopg [] (fuel + 1) (fun g z => RIv w R im fuel RES g z)
    case atStart => exact HZ.out
    case round =>
      obtain ⟨n, hh, x, t, col, mem, l, tr, cv, kv, tv, hnf, hd, hb, hc, hst, hrk, hx⟩ := hrel
      generalize wr = W1 at *
      clear HZ
      obtain ⟨ta, tc, etv, -, -⟩ := own_form hd.tro
      subst etv
      obtain ⟨-, -, -, -, -, -, e6, e7, e8, e9, e10, e11⟩ := hd.c0
      have f9 := hd.fz 9
      have f10 := hd.fz 10
      obtain ⟨o0, o1, o2, o3, o4, o5⟩ := six_cells hb
      obtain ⟨b0, b1, b2, b3, b4, b5⟩ := six_free hb
      have HD := hideIt (And.intro hd (And.intro hb hc))
      have HX := hideIt hx
      have ne3 : ¬ R = w.heap.size + 1 := fun e => ne2 e.symm
      clear hd hb hc hx
      rcases hst with ⟨ht, hhf, cls, D, hn, hL⟩ | ⟨hend, hres⟩
      · subst ht; subst hhf
        have hx0 : x = 0 := HX.out
        subst hx0
        have HDL := hideIt (And.intro D (And.intro hn hL))
        unfold rkD at hrk
        rw [if_pos ⟨rfl, rfl⟩] at hrk
        clear D hn hL
        by_cases hfe : n = fuel
        · subst hfe
          have HRE := hideIt (show RES = ⟨false, 0, 0, true, n, tr⟩ from by have := HDL.out.2.2; rw [Nat.sub_self, loopP] at this; exact this.symm)
          go_wp2_with (fail)
          obtain ⟨m1, mb⟩ := SETF.out W1 R col mem l tr n cv kv (.slice ta tr.length tc) HD.out.1 HD.out.2.1 HD.out.2.2
          obtain ⟨bz, pz⟩ := FIN.out (W1.setCell ⟨R, 9, none⟩ (.bool true)) W1 R col mem l tr false 0 0 n cv kv ta tc true m1 mb HD.out.2.2
          dsimp only [six] at bz pz
          generalize hZ : (((((((W1.setCell ⟨R, 9, none⟩ (.bool true)).setCell ⟨w.heap.size + 1, 0, none⟩ (.bool false)).setCell ⟨w.heap.size + 1, 1, none⟩ (.int .i64 0)).setCell ⟨w.heap.size + 1, 2, none⟩ (.int .u8 0)).setCell ⟨w.heap.size + 1, 3, none⟩ (.bool true)).setCell ⟨w.heap.size + 1, 4, none⟩ (.int .i64 (n : Int))).setCell ⟨w.heap.size + 1, 5, none⟩ (.slice ta tr.length tc)) = Z at *
          obtain ⟨y0, y1, y2, y3, y4, y5⟩ := six_cells bz
          exact bodyPost_ret (v := .tuple #[.agg (ocA false 0 0 true n (.slice ta tr.length tc)), .int .i64 0]) (by simp [results, Try.results10, go_sem, y0, y1, y2, y3, y4, y5]) rfl ⟨_, rfl, by rw [HRE.out]; exact pz⟩
        · have hnb : ((n : Int) == (fuel : Int)) = false := by simp; omega
          have zn : IntKind.i64.wrap ((n : Int) + 1) = (n : Int) + 1 := by rw [IntKind.wrap_i64]; omega
          have CS := hideIt (STEP.out W1 R col mem l cls tr n cv kv (.slice ta tr.length tc) HD.out.1 HD.out.2.1 HD.out.2.2 HDL.out.1 HDL.out.2.1 HDL.out.2.2 (by omega))
          have hnf' := hideIt hfe
          clear hfe
          go_wp2_with (first | (go_at_call 19; refine CS.out.mono ?_; rintro e y2 ⟨rfl, k3⟩; have HI2 := hideIt k3; clear k3) | fail)
          go_roundg (fuel - n)
          case measure => have := hnf'.out; omega
          case rel => exact HI2.out
      · have HRE := hideIt hres
        clear hres
        by_cases ht : t = 0
        · have hht : hh = true := by cases hh with | true => rfl | false => exact (hend ⟨ht, rfl⟩).elim
          subst ht; subst hht
          clear hend
          go_wp2_with (fail)
          obtain ⟨bz, pz⟩ := FIN.out W1 W1 R col mem l tr true x 0 n cv kv ta tc false HD.out.1 HD.out.2.1 HD.out.2.2
          dsimp only [six] at bz pz
          generalize hZ : ((((((W1.setCell ⟨w.heap.size + 1, 0, none⟩ (.bool true)).setCell ⟨w.heap.size + 1, 1, none⟩ (.int .i64 x)).setCell ⟨w.heap.size + 1, 2, none⟩ (.int .u8 0)).setCell ⟨w.heap.size + 1, 3, none⟩ (.bool false)).setCell ⟨w.heap.size + 1, 4, none⟩ (.int .i64 (n : Int))).setCell ⟨w.heap.size + 1, 5, none⟩ (.slice ta tr.length tc)) = Z at *
          obtain ⟨y0, y1, y2, y3, y4, y5⟩ := six_cells bz
          exact bodyPost_ret (v := .tuple #[.agg (ocA true x 0 false n (.slice ta tr.length tc)), .int .i64 0]) (by simp [results, Try.results10, go_sem, y0, y1, y2, y3, y4, y5]) rfl ⟨_, rfl, by rw [HRE.out]; exact pz⟩
        · clear hend
          go_wp2_with (fail)
          obtain ⟨bz, pz⟩ := FIN.out W1 W1 R col mem l tr hh x t n cv kv ta tc false HD.out.1 HD.out.2.1 HD.out.2.2
          dsimp only [six] at bz pz
          generalize hZ : ((((((W1.setCell ⟨w.heap.size + 1, 0, none⟩ (.bool hh)).setCell ⟨w.heap.size + 1, 1, none⟩ (.int .i64 x)).setCell ⟨w.heap.size + 1, 2, none⟩ (.int .u8 t)).setCell ⟨w.heap.size + 1, 3, none⟩ (.bool false)).setCell ⟨w.heap.size + 1, 4, none⟩ (.int .i64 (n : Int))).setCell ⟨w.heap.size + 1, 5, none⟩ (.slice ta tr.length tc)) = Z at *
          obtain ⟨y0, y1, y2, y3, y4, y5⟩ := six_cells bz
          exact bodyPost_ret (v := .tuple #[.agg (ocA hh x t false n (.slice ta tr.length tc)), .int .i64 0]) (by simp [results, Try.results10, go_sem, y0, y1, y2, y3, y4, y5]) rfl ⟨_, rfl, by rw [HRE.out]; exact pz⟩
end
end Da
end Go.Proofs.Ytnlgkiejppgfjaa

namespace Go.Proofs.Ytnlgkiejppgfjaa
open Go.RowKit
set_option linter.unusedVariables false

/-- The document's run, every way. -/
theorem rrun_every (X : World) (im : PIm) (hok : im.ok X) (k : Nat) (hk : k ≤ 8388608) : Calls Try.prog 10 #[im.v, .int .i64 (k : Int)] X fun e w' => ∃ ta tc, e = .returned (.tuple #[.agg (ocA (resO im k).h (resO im k).x (resO im k).t (resO im k).sp (resO im k).n (.slice ta (resO im k).tr.length tc)), .int .i64 (resE im)]) ∧ w'.ownsRow X.heap.size 2 1 (.slice ta (resO im k).tr.length tc) (resO im k).tr.length (rowI (resO im k).tr) ∧ Q X w' := by
  cases hF : formP im with
  | false =>
    refine (Da.rrun_bad X hok k hk hF).mono ?_
    rintro e w' ⟨rfl, q⟩
    refine ⟨none, 0, ?_, ?_, q⟩
    · simp only [resO, resE, hF]
      rfl
    · simp only [resO, hF]
      exact World.ownsRow_nil _ _ _ _
  | true =>
    refine (Da.rrun_good X hok k hk hF).mono ?_
    rintro e w' ⟨v, rfl, ta, tc, rfl, h5, h6⟩
    refine ⟨ta, tc, ?_, ?_, h6⟩
    · simp only [resO, resE, hF]
      rfl
    · simp only [resO, hF]
      exact h5

theorem both_out (c : PIm) (k : Nat) (hk : k ≤ 8388608) : ∃ (oh : Bool) (ox ot : Int) (os : Bool) (on : Nat) (tr : List Int) (vv : Int), (∀ X : World, c.ok X → Calls Try.prog 9 #[c.v, .int .i64 (k : Int)] X fun e w' => ∃ ta tc, e = .returned (.tuple #[.agg #[.bool oh, .int .i64 ox, .int .u8 ot, .bool os, .int .i64 (on : Int), .slice ta tr.length tc], .int .i64 vv]) ∧ w'.ownsRow X.heap.size 2 1 (.slice ta tr.length tc) tr.length (rowI tr) ∧ Q X w') ∧
    (∀ X : World, c.ok X → Calls Try.prog 10 #[c.v, .int .i64 (k : Int)] X fun e w' => ∃ ta tc, e = .returned (.tuple #[.agg #[.bool oh, .int .i64 ox, .int .u8 ot, .bool os, .int .i64 (on : Int), .slice ta tr.length tc], .int .i64 vv]) ∧ w'.ownsRow X.heap.size 2 1 (.slice ta tr.length tc) tr.length (rowI tr) ∧ Q X w') :=
  ⟨(resO c k).h, (resO c k).x, (resO c k).t, (resO c k).sp, (resO c k).n, (resO c k).tr, resE c, fun X hX => run_every X c hX k hk, fun X hX => rrun_every X c hX k hk⟩

set_option maxRecDepth 100000 in
set_option maxHeartbeats 4000000 in
theorem runs_walk (c : PIm) (n : Int) (w : World) (hcok : c.ok w) (hn : 0 ≤ n ∧ n ≤ 65535) : Calls Try.prog 3 #[c.v, .int .u16 n] w fun e w' => e = .returned (.bool true) ∧ Below w.heap.size w w' := by
  have HB : Hid (∀ X, Q (bxI w c) X → X.cell? ⟨w.heap.size, 0, none⟩ = some (.slice c.wa c.ws.length c.wc) ∧ X.cell? ⟨w.heap.size, 1, none⟩ = some (.slice c.sa c.st.length c.sc) ∧ X.cell? ⟨w.heap.size, 2, none⟩ = some (.slice c.fa c.fr.length c.fc) ∧ X.cell? ⟨w.heap.size, 3, none⟩ = some (.slice c.ea c.da.length c.ec)) := fun X h => bxI_at h
  have qB : Hid (Q w (bxI w c)) := (Q.refl w).alloc _
  have CA : Hid (∀ X, Calls Try.prog 8 #[] X fun e w' => e = .returned (.bool true) ∧ Q X w') := fun X => awake_any X
  have HC := hideIt (fun X (h : Q (bxI w c) X) => hcok.keep (((Q.refl w).alloc _ : Q w (bxI w c)).trans h))
  obtain ⟨m, rfl⟩ : ∃ m : Nat, n = (m : Int) := ⟨n.toNat, by omega⟩
  have t1 : (m : Int).tmod 3000 = ((m % 3000 : Nat) : Int) := by rw [Int.tmod_eq_emod_of_nonneg (by omega)]; omega
  obtain ⟨oh, ox, ot, os, on, tr, vv, cr, crr⟩ := both_out c (m % 3000) (by omega)
  have CR := hideIt cr
  have CRR := hideIt crr
  generalize m % 3000 = k at *
  generalize hBB : bxI w c = B at *
  have HBB := hideIt hBB
  clear hcok hBB cr crr
  go_enter Try.func3, Try.ntmps3
  go_wp2_with (fail)
  rw [show w.alloc (.cells #[.slice c.wa c.ws.length c.wc, .slice c.sa c.st.length c.sc, .slice c.fa c.fr.length c.fc, .slice c.ea c.da.length c.ec] 26) = B from HBB.out]
  go_wp2_with (first
    | (go_at_call 8; refine (CA.out _).mono ?_; rintro e x ⟨rfl, q1⟩; have HQ1 := hideIt q1; obtain ⟨s1, s2, s3, s4⟩ := HB.out x q1; clear q1)
    | (go_at_call 9; refine Calls.mono (CR.out _ (HC.out _ HQ1.out)) ?_; rintro e y ⟨ta, tc, rfl, ho, hb⟩; have HO1 := hideIt ho; have HY1 := hideIt hb; clear s1 s2 s3 s4; obtain ⟨s1, s2, s3, s4⟩ := HB.out y (HQ1.out.trans hb); have r1 := fun ob => cell_keep ((Q.refl y).alloc ob) s1; have r2 := fun ob => cell_keep ((Q.refl y).alloc ob) s2; have r3 := fun ob => cell_keep ((Q.refl y).alloc ob) s3; have r4 := fun ob => cell_keep ((Q.refl y).alloc ob) s4; clear s1 s2 s3 s4 ho hb)
    | (go_at_call 10; refine Calls.mono (CRR.out _ (HC.out _ ((HQ1.out.trans HY1.out).alloc _))) ?_; rintro e y2 ⟨tb, td, rfl, ho2, hb2⟩; have HO2 := hideIt ho2; have HY2 := hideIt hb2; have b3 := (hb2.block _ (by simp)).trans (heap_new y _); have p0 := fun ob => (cell_of_block (heap_old ob b3) 0); have p1 := fun ob => (cell_of_block (heap_old ob b3) 1); have p2 := fun ob => (cell_of_block (heap_old ob b3) 2); have p3 := fun ob => (cell_of_block (heap_old ob b3) 3); have p4 := fun ob => (cell_of_block (heap_old ob b3) 4); have p5 := fun ob => (cell_of_block (heap_old ob b3) 5); clear r1 r2 r3 r4 ho2 hb2 b3)
    | (go_at_call 11; refine Calls.mono (same_eq _ oh ox ot os on tr ta tb tc td (own_len HO1.out) ((own_trc HO1.out).keep ((((Q.refl y).alloc _).trans HY2.out).alloc _)) ((own_trc HO2.out).keep ((Q.refl _).alloc _))) ?_; rintro e y4 ⟨rfl, q4⟩; have HY4 := hideIt ((HY2.out.alloc _).trans q4); clear q4)
    | fail)
  all_goals go_ret
  all_goals exact ⟨rfl, qB.out.trans (HQ1.out.trans ((HY1.out.alloc _).trans HY4.out))⟩
end Go.Proofs.Ytnlgkiejppgfjaa
