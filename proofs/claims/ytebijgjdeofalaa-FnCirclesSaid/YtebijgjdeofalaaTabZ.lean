/-
  What is proved here: the table of tenths, all rows. Conditions: none. Own text; no dump.
-/
import Derived.Test.YtebijgjdeofalaaTab0
import Derived.Test.YtebijgjdeofalaaTab1
import Derived.Test.YtebijgjdeofalaaTab2
import Derived.Test.YtebijgjdeofalaaTab3
import Derived.Test.YtebijgjdeofalaaTab4
import Derived.Test.YtebijgjdeofalaaTab5
import Derived.Test.YtebijgjdeofalaaTab6
import Derived.Test.YtebijgjdeofalaaTab7
import Derived.Test.YtebijgjdeofalaaTabP
namespace Go.Proofs.Ytebijgjdeofalaa
namespace Flt
theorem tab_all (t : Nat) (h0 : 1 ≤ t) (ht : t ≤ 40000) (hc : 1 ≤ code t) : TenOf (xw t) ((code t : Int) - 512) := by
  suffices h : rowB t = true by
    unfold rowB at h
    rw [orB_eq, Bool.or_eq_true] at h
    rcases h with h | h
    · have := Nat.eq_of_beq_eq_true h; omega
    · exact tenB_ok h
  clear hc
  have hk : (1 ≤ t ∧ t < 296) ∨ (296 ≤ t ∧ t < 652) ∨ (652 ≤ t ∧ t < 1057) ∨ (1057 ≤ t ∧ t < 1495) ∨ (1495 ≤ t ∧ t < 1957) ∨ (1957 ≤ t ∧ t < 2444) ∨ (2444 ≤ t ∧ t < 2950) ∨ (2950 ≤ t ∧ t < 3481) ∨ (3481 ≤ t ∧ t < 4032) ∨ (4032 ≤ t ∧ t < 4601) ∨ (4601 ≤ t ∧ t < 5191) ∨ (5191 ≤ t ∧ t < 5790) ∨ (5790 ≤ t ∧ t < 6417) ∨ (6417 ≤ t ∧ t < 7056) ∨ (7056 ≤ t ∧ t < 7705) ∨ (7705 ≤ t ∧ t < 8379) ∨ (8379 ≤ t ∧ t < 9072) ∨ (9072 ≤ t ∧ t < 9792) ∨ (9792 ≤ t ∧ t < 10509) ∨ (10509 ≤ t ∧ t < 11253) ∨ (11253 ≤ t ∧ t < 12028) ∨ (12028 ≤ t ∧ t < 12805) ∨ (12805 ≤ t ∧ t < 13616) ∨ (13616 ≤ t ∧ t < 14444) ∨ (14444 ≤ t ∧ t < 15308) ∨ (15308 ≤ t ∧ t < 16170) ∨ (16170 ≤ t ∧ t < 17080) ∨ (17080 ≤ t ∧ t < 18018) ∨ (18018 ≤ t ∧ t < 18975) ∨ (18975 ≤ t ∧ t < 19968) ∨ (19968 ≤ t ∧ t < 21014) ∨ (21014 ≤ t ∧ t < 22120) ∨ (22120 ≤ t ∧ t < 23310) ∨ (23310 ≤ t ∧ t < 24613) ∨ (24613 ≤ t ∧ t < 25992) ∨ (25992 ≤ t ∧ t < 27507) ∨ (27507 ≤ t ∧ t < 29237) ∨ (29237 ≤ t ∧ t < 31328) ∨ (31328 ≤ t ∧ t < 34125) ∨ (34125 ≤ t ∧ t < 40001) := by omega
  rcases hk with hk | hk | hk | hk | hk | hk | hk | hk | hk | hk | hk | hk | hk | hk | hk | hk | hk | hk | hk | hk | hk | hk | hk | hk | hk | hk | hk | hk | hk | hk | hk | hk | hk | hk | hk | hk | hk | hk | hk | hk
  · exact allR_at tab1 t hk.1 (by omega)
  · exact allR_at tab296 t hk.1 (by omega)
  · exact allR_at tab652 t hk.1 (by omega)
  · exact allR_at tab1057 t hk.1 (by omega)
  · exact allR_at tab1495 t hk.1 (by omega)
  · exact allR_at tab1957 t hk.1 (by omega)
  · exact allR_at tab2444 t hk.1 (by omega)
  · exact allR_at tab2950 t hk.1 (by omega)
  · exact allR_at tab3481 t hk.1 (by omega)
  · exact allR_at tab4032 t hk.1 (by omega)
  · exact allR_at tab4601 t hk.1 (by omega)
  · exact allR_at tab5191 t hk.1 (by omega)
  · exact allR_at tab5790 t hk.1 (by omega)
  · exact allR_at tab6417 t hk.1 (by omega)
  · exact allR_at tab7056 t hk.1 (by omega)
  · exact allR_at tab7705 t hk.1 (by omega)
  · exact allR_at tab8379 t hk.1 (by omega)
  · exact allR_at tab9072 t hk.1 (by omega)
  · exact allR_at tab9792 t hk.1 (by omega)
  · exact allR_at tab10509 t hk.1 (by omega)
  · exact allR_at tab11253 t hk.1 (by omega)
  · exact allR_at tab12028 t hk.1 (by omega)
  · exact allR_at tab12805 t hk.1 (by omega)
  · exact allR_at tab13616 t hk.1 (by omega)
  · exact allR_at tab14444 t hk.1 (by omega)
  · exact allR_at tab15308 t hk.1 (by omega)
  · exact allR_at tab16170 t hk.1 (by omega)
  · exact allR_at tab17080 t hk.1 (by omega)
  · exact allR_at tab18018 t hk.1 (by omega)
  · exact allR_at tab18975 t hk.1 (by omega)
  · exact allR_at tab19968 t hk.1 (by omega)
  · exact allR_at tab21014 t hk.1 (by omega)
  · exact allR_at tab22120 t hk.1 (by omega)
  · exact allR_at tab23310 t hk.1 (by omega)
  · exact allR_at tab24613 t hk.1 (by omega)
  · exact allR_at tab25992 t hk.1 (by omega)
  · exact allR_at tab27507 t hk.1 (by omega)
  · exact allR_at tab29237 t hk.1 (by omega)
  · exact allR_at tab31328 t hk.1 (by omega)
  · exact allR_at tab34125 t hk.1 (by omega)

end Flt
end Go.Proofs.Ytebijgjdeofalaa
