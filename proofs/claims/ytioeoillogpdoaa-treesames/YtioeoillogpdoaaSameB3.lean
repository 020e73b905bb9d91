/-
  When the program tells two nodes apart: contracts over the program; the conditions: the arguments are trees that lie in memory.
-/
import Derived.Test.YtioeoillogpdoaaSameA
import Derived.BigRegion
namespace Go.Proofs.Ytioeoillogpdoaa
open Go.RowKit
set_option linter.unusedVariables false

set_option maxRecDepth 100000 in
set_option maxHeartbeats 4000000 in
theorem same_no5 (x y : NF) (b o b' o' : Nat) (s t : Value) (w : World) (hx : At w b o (cellsN x s)) (hy : At w b' o' (cellsN y t)) (h0 : (x.k != y.k) = false) (h1 : (x.op != y.op) = false) (h2 : (x.tk == y.tk) = true) (h3 : (x.ti == y.ti) = true) (h4 : (x.tn == y.tn) = true) (h5 : (x.n != y.n) = true) :
    Calls Try.prog 46 #[.pointer (some ⟨b, o, none⟩), .pointer (some ⟨b', o', none⟩)] w fun e w' => e = .returned (.bool false) ∧ ∃ n, w' = w.drewN n := by
  obtain ⟨c0, c1, c2, c3, c4, c5, c6, c7, c8, c9⟩ := hx.ten
  obtain ⟨f0, f1, f2, f3, f4, f5, f6, f7, f8, f9⟩ := hy.ten
  clear hx hy
  go_enter Try.func46, Try.ntmps46
  go_wp2_with (fail)
  simp only [List.append]
  go_region
  go_wp2_with (fail)
  go_ret
  exact ⟨rfl, _, rfl⟩

set_option maxRecDepth 100000 in
set_option maxHeartbeats 4000000 in
theorem same_no6 (x y : NF) (b o b' o' : Nat) (s t : Value) (w : World) (hx : At w b o (cellsN x s)) (hy : At w b' o' (cellsN y t)) (h0 : (x.k != y.k) = false) (h1 : (x.op != y.op) = false) (h2 : (x.tk == y.tk) = true) (h3 : (x.ti == y.ti) = true) (h4 : (x.tn == y.tn) = true) (h5 : (x.n != y.n) = false) (h6 : (x.m != y.m) = true) :
    Calls Try.prog 46 #[.pointer (some ⟨b, o, none⟩), .pointer (some ⟨b', o', none⟩)] w fun e w' => e = .returned (.bool false) ∧ ∃ n, w' = w.drewN n := by
  obtain ⟨c0, c1, c2, c3, c4, c5, c6, c7, c8, c9⟩ := hx.ten
  obtain ⟨f0, f1, f2, f3, f4, f5, f6, f7, f8, f9⟩ := hy.ten
  clear hx hy
  go_enter Try.func46, Try.ntmps46
  go_wp2_with (fail)
  simp only [List.append]
  go_region
  go_wp2_with (fail)
  go_ret
  exact ⟨rfl, _, rfl⟩

set_option maxRecDepth 100000 in
set_option maxHeartbeats 4000000 in
theorem same_no7 (x y : NF) (b o b' o' : Nat) (s t : Value) (w : World) (hx : At w b o (cellsN x s)) (hy : At w b' o' (cellsN y t)) (h0 : (x.k != y.k) = false) (h1 : (x.op != y.op) = false) (h2 : (x.tk == y.tk) = true) (h3 : (x.ti == y.ti) = true) (h4 : (x.tn == y.tn) = true) (h5 : (x.n != y.n) = false) (h6 : (x.m != y.m) = false) (h7 : (x.nm.toList == y.nm.toList) = false) :
    Calls Try.prog 46 #[.pointer (some ⟨b, o, none⟩), .pointer (some ⟨b', o', none⟩)] w fun e w' => e = .returned (.bool false) ∧ ∃ n, w' = w.drewN n := by
  obtain ⟨c0, c1, c2, c3, c4, c5, c6, c7, c8, c9⟩ := hx.ten
  obtain ⟨f0, f1, f2, f3, f4, f5, f6, f7, f8, f9⟩ := hy.ten
  clear hx hy
  go_enter Try.func46, Try.ntmps46
  go_wp2_with (fail)
  simp only [List.append]
  go_region
  go_wp2_with (fail)
  go_ret
  exact ⟨rfl, _, rfl⟩

set_option maxRecDepth 100000 in
set_option maxHeartbeats 4000000 in
theorem same_no8 (x y : NF) (b o b' o' : Nat) (s t : Value) (w : World) (hx : At w b o (cellsN x s)) (hy : At w b' o' (cellsN y t)) (h0 : (x.k != y.k) = false) (h1 : (x.op != y.op) = false) (h2 : (x.tk == y.tk) = true) (h3 : (x.ti == y.ti) = true) (h4 : (x.tn == y.tn) = true) (h5 : (x.n != y.n) = false) (h6 : (x.m != y.m) = false) (h7 : (x.nm.toList == y.nm.toList) = true) (h8 : (x.fd.toList == y.fd.toList) = false) :
    Calls Try.prog 46 #[.pointer (some ⟨b, o, none⟩), .pointer (some ⟨b', o', none⟩)] w fun e w' => e = .returned (.bool false) ∧ ∃ n, w' = w.drewN n := by
  obtain ⟨c0, c1, c2, c3, c4, c5, c6, c7, c8, c9⟩ := hx.ten
  obtain ⟨f0, f1, f2, f3, f4, f5, f6, f7, f8, f9⟩ := hy.ten
  clear hx hy
  go_enter Try.func46, Try.ntmps46
  go_wp2_with (fail)
  simp only [List.append]
  go_region
  go_wp2_with (fail)
  go_ret
  exact ⟨rfl, _, rfl⟩

end Go.Proofs.Ytioeoillogpdoaa
