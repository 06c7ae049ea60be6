package tests

import (
	"strings"
	"testing"

	"loop.example/g01318/impl"
)

// fieldsToTry are fields, and such that are none.
func fieldsToTry() []impl.Field {
	return append(append(validFields(), wrongFields()...), speckled(16, 16, 60), field("### #.# ###"), impl.Field{Wide: 3, High: 2, Cells: maskOf("#.#.#")})
}

// shapesToTry are shapes, and such that are none.
func shapesToTry() []impl.Shape {
	return append(append(wrongShapes(), greatShapes()...), shape("ring", "### #.# ###"))
}

func callsOnFields() []call {
	fields := fieldsToTry()
	calls := on("ValidField", fields, impl.ValidField)
	calls = append(calls, on("SameField", pairsOf(fields), split(impl.SameField))...)
	calls = append(calls, onto("CountCells", fields, impl.CountCells)...)
	calls = append(calls, onto("SpansOf", fields, impl.SpansOf)...)
	calls = append(calls, onto("FirstPath", fields, impl.FirstPath)...)
	calls = append(calls, onto("EdgeOfField", fields, impl.EdgeOfField)...)
	calls = append(calls, onto("HolesOf", fields, impl.HolesOf)...)
	for _, f := range fields {
		calls = append(calls, call{"GroupsOf", func() []any { g, s, ok := impl.GroupsOf(f); return []any{g, s, ok} }})
		calls = append(calls, call{"BurnTimes", func() []any { l, n, ok := impl.BurnTimes(f); return []any{l, n, ok} }})
		calls = append(calls, call{"MiddleOf", func() []any { z, x, ok := impl.MiddleOf(f); return []any{z, x, ok} }})
		sets := append(append(wrongSets(), lists(integers())...), nil, []int64{0}, []int64{0, 1, 2}, fullOnes(f))
		calls = append(calls, onto("FlipCells", sets, func(list []int64) (impl.Field, bool) { return impl.FlipCells(f, list) })...)
		for _, z := range append(someEnds(), complexSpecials()...) {
			calls = append(calls, onto("MassesOf", someCounts(), func(count int64) ([]int64, bool) { return impl.MassesOf(f, z, count) })...)
		}
	}
	return calls
}

func callsOnGrowing() []call {
	var calls []call
	for _, f := range fieldsToTry() {
		for _, n := range append(someCounts(), 16, 512, 513) {
			for _, k := range append(someCounts(), 16, 512, 513) {
				calls = append(calls, call{"StickOne", func() []any { g, s, stuck, ok := impl.StickOne(f, n, k); return []any{g, s, stuck, ok} }})
				calls = append(calls, call{"GrowEdge", func() []any { g, s, ok := impl.GrowEdge(f, n, k); return []any{g, s, ok} }})
			}
			calls = append(calls, call{"StickMany", func() []any { g, s, m, ok := impl.StickMany(f, n, 7, 5); return []any{g, s, m, ok} }})
			calls = append(calls, call{"StickMany", func() []any { g, s, m, ok := impl.StickMany(f, 7, n, 5); return []any{g, s, m, ok} }})
			calls = append(calls, call{"StickMany", func() []any { g, s, m, ok := impl.StickMany(f, 7, 7, n); return []any{g, s, m, ok} }})
		}
	}
	return calls
}

func callsThatMakeFields() []call {
	var calls []call
	sides := append(someCounts(), 4, 16, 17)
	weights := append(lists(specials()), []float32{1}, []float32{1, 0, minusZero, 2}, spread(256), burdens(4, 4), burdens(16, 16))
	for _, n := range sides {
		for _, k := range sides {
			calls = append(calls, call{"EmptyField", func() []any { f, ok := impl.EmptyField(n, k); return []any{f, ok} }})
			for _, x := range specials() {
				calls = append(calls, call{"DrawnField", func() []any { f, s, ok := impl.DrawnField(n, k, x, 7); return []any{f, s, ok} }})
				calls = append(calls, call{"DrawnField", func() []any { f, s, ok := impl.DrawnField(5, n, x, k); return []any{f, s, ok} }})
			}
			calls = append(calls, onto("ThresholdOf", weights, func(list []float32) (float32, bool) { return impl.ThresholdOf(list, n, k) })...)
			calls = append(calls, onto("InvadeFrom", weights, func(list []float32) ([]int64, bool) { return impl.InvadeFrom(list, n, k, 0, 1) })...)
			calls = append(calls, call{"InvadeFrom", func() []any { l, ok := impl.InvadeFrom(burdens(16, 16), 16, 16, n, k); return []any{l, ok} }})
		}
	}
	return calls
}

func callsOnShapes() []call {
	shapes := shapesToTry()
	texts := append(strange(), "\x01\x02", "\xff\x01", "SHP1", strings.Repeat("SHP1", 5000), sealed("SHP1\x01a\x03\x01\x02\x00\x01\x02"), sealed("SHP1\xff\xff\xff"), strings.Repeat("\x00", 70000))
	for _, s := range greatShapes() {
		stored, _ := impl.StoreShape(s)
		texts = append(texts, stored, stored[:len(stored)/2], stored+stored[1:], strings.Repeat(stored, 20))
	}
	cells := [][]bool{nil, {}, {false}, {true}, repeated(true, 256), repeated(false, 257), repeated(true, 5000), speckled(16, 16, 60).Cells}
	calls := on("ValidShape", shapes, impl.ValidShape)
	calls = append(calls, on("SameShapes", pairsOf([][]impl.Shape{nil, {}, shapes, shapes[:1], shapes[1:], greatShapes()}), split(impl.SameShapes))...)
	calls = append(calls, onto("StoreShape", shapes, impl.StoreShape)...)
	calls = append(calls, onto("StoreShapes", [][]impl.Shape{nil, {}, shapes, shapes[:1], greatShapes(), repeated(greatShapes()[1], 8), repeated(greatShapes()[1], 9)}, impl.StoreShapes)...)
	calls = append(calls, onto("LoadShape", texts, impl.LoadShape)...)
	for _, s := range texts {
		calls = append(calls, call{"RecoverShapes", func() []any { l, n, ok := impl.RecoverShapes(s); return []any{l, n, ok} }})
	}
	calls = append(calls, onto("UnpackCells", texts, impl.UnpackCells)...)
	return append(calls, onto("PackCells", cells, impl.PackCells)...)
}

// TestGrowthDependsOnArgumentsOnly calls every function of chapter 7 with whatever there is.
func TestGrowthDependsOnArgumentsOnly(t *testing.T) {
	wantAgain(t, callsOnFields())
	wantAgain(t, callsOnGrowing())
	wantAgain(t, callsThatMakeFields())
	wantAgain(t, callsOnShapes())
}

func TestArgumentsOfGrowthStay(t *testing.T) {
	cells := keep(maskOf("#...", ".#..", "...#"), true)
	set := keep([]int64{0, 2, 5, 11}, 77)
	weights := keep([]float32{3, minusZero, 1, 0, 2, 5, 4, 1, 1, 7, -6, leastNumber}, 77)
	f := impl.Field{Wide: 4, High: 3, Cells: cells.list}
	if g, ok := impl.FlipCells(f, set.list); !ok || impl.SameField(f, g) || !impl.ValidField(g) {
		t.Error("FlipCells fails")
	}
	impl.CountCells(f)
	for seed := range int64(20) {
		impl.StickOne(f, 9, 1000003*seed)
	}
	if _, _, stuck, ok := impl.StickMany(f, 20, 20, 5); !ok || stuck == 0 {
		t.Error("nothing sticks")
	}
	if _, _, ok := impl.GrowEdge(f, 7, 5); !ok {
		t.Error("GrowEdge fails")
	}
	impl.GroupsOf(f)
	impl.SpansOf(f)
	impl.BurnTimes(f)
	impl.FirstPath(f)
	impl.InvadeFrom(weights.list, 4, 3, 5, 12)
	impl.ThresholdOf(weights.list, 4, 3)
	impl.EdgeOfField(f)
	impl.HolesOf(f)
	impl.MiddleOf(f)
	impl.MassesOf(f, 1, 9)
	impl.PackCells(cells.list)
	shapes := keep([]impl.Shape{{Name: "a", Field: f}, {Name: "b", Field: f}}, impl.Shape{Name: "c"})
	impl.SameShapes(shapes.list, shapes.list)
	if stored, ok := impl.StoreShapes(shapes.list); !ok || len(stored) != 2*18 {
		t.Errorf("StoreShapes returns %d bytes, %v", len(stored), ok)
	}
	wantUntouched(t, "a function of fields", cells.list, sameBoxes, cells.was)
	wantUntouched(t, "FlipCells", set.list, sameIntegers, set.was)
	wantUntouched(t, "a function of weights", weights.list, sameBits, weights.was)
	wantUntouched(t, "a function of shapes", shapes.list, func(a, b impl.Shape) bool { return a.Name == b.Name && impl.SameField(a.Field, b.Field) }, shapes.was)
}

func TestListsOfGrowthAreNew(t *testing.T) {
	f := field("##. .#. .##")
	weights := []float32{3, 1, 2, 0, 5, 4}
	wantKeptApart(t, "EmptyField", func() []bool { g, _ := impl.EmptyField(2, 2); return g.Cells })
	wantKeptApart(t, "DrawnField", func() []bool { g, _, _ := impl.DrawnField(3, 3, 0.5, 5); return g.Cells })
	wantKeptApart(t, "FlipCells of nothing", func() []bool { g, _ := impl.FlipCells(f, nil); return g.Cells })
	wantKeptApart(t, "FlipCells", func() []bool { g, _ := impl.FlipCells(f, []int64{1}); return g.Cells })
	for seed := range int64(9) {
		wantKeptApart(t, "StickOne", func() []bool { g, _, _, _ := impl.StickOne(f, 3, 1000003*seed); return g.Cells })
	}
	wantKeptApart(t, "StickMany of none", func() []bool { g, _, _, _ := impl.StickMany(f, 0, 3, 5); return g.Cells })
	wantKeptApart(t, "StickMany", func() []bool { g, _, _, _ := impl.StickMany(f, 4, 3, 5); return g.Cells })
	wantKeptApart(t, "GrowEdge of none", func() []bool { g, _, _ := impl.GrowEdge(f, 0, 5); return g.Cells })
	wantKeptApart(t, "GrowEdge", func() []bool { g, _, _ := impl.GrowEdge(f, 2, 5); return g.Cells })
	wantKeptApart(t, "GroupsOf", func() []int64 { l, _, _ := impl.GroupsOf(f); return l })
	wantKeptApart(t, "the sizes of GroupsOf", func() []int64 { _, l, _ := impl.GroupsOf(f); return l })
	wantKeptApart(t, "SpansOf", func() []int64 { l, _ := impl.SpansOf(f); return l })
	wantKeptApart(t, "BurnTimes", func() []int64 { l, _, _ := impl.BurnTimes(f); return l })
	wantKeptApart(t, "FirstPath", func() []int64 { l, _ := impl.FirstPath(f); return l })
	wantKeptApart(t, "InvadeFrom", func() []int64 { l, _ := impl.InvadeFrom(weights, 3, 2, 5, 6); return l })
	wantKeptApart(t, "MassesOf", func() []int64 { l, _ := impl.MassesOf(f, 1, 5); return l })
	wantKeptApart(t, "UnpackCells", func() []bool { l, _ := impl.UnpackCells("\x01\x02\x03"); return l })
	stored, _ := impl.StoreShapes([]impl.Shape{{Name: "a", Field: f}, {Name: "b", Field: f}})
	wantKeptApart(t, "LoadShape", func() []bool { s, _ := impl.LoadShape(stored[:len(stored)/2]); return s.Field.Cells })
	wantKeptApart(t, "RecoverShapes", func() []bool { l, _, _ := impl.RecoverShapes(stored); return l[1].Field.Cells })
	wantField(t, "a field behind results that are overwritten", f, true, field("##. .#. .##"))
	// Two lists of one result, and two shapes with equal cells, are kept apart, too.
	groups, sizes, _ := impl.GroupsOf(f)
	groups = groups[:cap(groups)]
	clear(groups)
	wantIntegers(t, "sizes beside groups that are overwritten", sizes, true, []int64{5})
	list, _, _ := impl.RecoverShapes(stored)
	clear(list[0].Field.Cells[:cap(list[0].Field.Cells)])
	wantField(t, "a shape beside one that is overwritten", list[1].Field, true, f)
}
