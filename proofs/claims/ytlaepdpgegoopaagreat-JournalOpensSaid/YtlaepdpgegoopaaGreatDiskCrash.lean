
/- The law DiskCrash. -/
import Derived.Test.YtlaepdpgegoopaaGreatDiskOwn
import Derived.Outline
set_option linter.unusedVariables false
namespace Go.Proofs.YtlaepdpgegoopaaGreat
open Go.ChangeShapes Go.WideShapes Go.ChangeAt Go.RowKit Go.Maps Csv Dk

/-! ### A disk with one file -/
def oneF (cap : Nat) (n : Int) (data : Bs) (s : Nat) (up : Bool) (st : Int) (f : Option (Nat × List Int)) : DiskM := ⟨cap, [⟨n, data, s⟩], up, st, f⟩
theorem one_find (n : Int) (data : Bs) (s : Nat) : findF [⟨n, data, s⟩] n = some ⟨n, data, s⟩ := by simp [findF]
theorem one_append {cap : Nat} {n : Int} {data t : Bs} {s : Nat} {st : Int} (h : data.length + t.length ≤ cap) : appendD (oneF cap n data s true st none) n t = (0, oneF cap n (data ++ t) s true st none) := by
  have h2 : ¬ ((oneF cap n data s true st none).free < t.length) := by unfold oneF DiskM.free used; simp; omega
  unfold appendD
  rw [withF_some (f := ⟨n, data, s⟩) rfl (one_find n data s), if_neg h2]
  simp [oneF, DiskM.put, setF, DiskM.count]
theorem one_sync {cap : Nat} {n : Int} {data : Bs} {s : Nat} {st : Int} : syncD (oneF cap n data s true st none) n = (0, oneF cap n data data.length true st none) := by
  unfold syncD
  rw [withF_some (f := ⟨n, data, s⟩) rfl (one_find n data s)]
  simp [oneF, DiskM.put, setF, DiskM.count, DiskM.then]
theorem one_down {cap : Nat} {n : Int} {data W : Bs} {s : Nat} {st : Int} {f : Option (Nat × List Int)} {ks : List Int} (h : data.take (s + stays ks[0]? (data.length - s)) = W) : (oneF cap n data s true st f).down ks = oneF cap n W W.length false st none := by
  unfold DiskM.down oneF downL downL FileM.left FileM.loose
  simp only [h]
theorem one_crash {cap : Nat} {n : Int} {data W : Bs} {s : Nat} {st : Int} {f : Option (Nat × List Int)} {ks : List Int} (h : data.take (s + stays ks[0]? (data.length - s)) = W) : crashD (oneF cap n data s true st f) ks = (0, oneF cap n W W.length false st none) := by
  rw [← one_down h]
  unfold crashD
  rw [if_neg (by simp [oneF])]
theorem one_read {cap : Nat} {n : Int} {data : Bs} {s : Nat} {st : Int} {f : Option (Nat × List Int)} {k : Int} (h : k = data.length) : readD (oneF cap n data s true st f) n 0 k = (data, 0) := by
  subst h
  rw [read_few (f := ⟨n, data, s⟩) rfl (one_find n data s), if_neg (by simp)]
  simp
theorem one_size {cap : Nat} {n : Int} {data : Bs} {s : Nat} {st : Int} {f : Option (Nat × List Int)} {k : Int} (h : k = data.length) : sizeD (oneF cap n data s true st f) n = (k, 0) := by
  subst h
  unfold sizeD
  rw [if_neg (by simp [oneF])]
  simp only [oneF, one_find]
theorem one_loose {cap : Nat} {n : Int} {data : Bs} {s : Nat} {up : Bool} {st : Int} {f : Option (Nat × List Int)} {k : Int} (h : k = ((data.length - s : Nat) : Int)) : looseL (oneF cap n data s up st f) = [k] := by
  subst h; rfl

end Go.Proofs.YtlaepdpgegoopaaGreat
