package tests

import (
	"slices"
	"testing"

	"loop.example/g01318/impl"
)

// changedDesk returns a new desk behind a change.
func changedDesk(change func(d *impl.Desk)) impl.Desk {
	d := impl.NewDesk()
	change(&d)
	return d
}

// validDesks have parts of all kinds, and points from none to as many as there can be.
func validDesks() []impl.Desk {
	list := []impl.Desk{impl.NewDesk()}
	for _, r := range mapRows() {
		list = append(list, changedDesk(func(d *impl.Desk) { d.Map = r.m }))
	}
	for _, v := range validViews() {
		list = append(list, changedDesk(func(d *impl.Desk) { d.View = v }))
	}
	for _, g := range validGrammars() {
		list = append(list, changedDesk(func(d *impl.Desk) { d.Grammar = g }))
	}
	for _, points := range [][]complex64{nil, {}, {1}, {1, 1}, {0, complex(mostNumber, 0), complex(-mostNumber, 1)}, {complex(minusZero, leastNumber), -1, 2i}, make([]complex64, 256), zigzag(64), line(bay)} {
		list = append(list, changedDesk(func(d *impl.Desk) { d.Points = points }))
	}
	return list
}

// wrongDesks have just one part that is not valid.
func wrongDesks() []impl.Desk {
	list := []impl.Desk{{}}
	for _, m := range wrongMaps() {
		list = append(list, changedDesk(func(d *impl.Desk) { d.Map = m }))
	}
	for _, v := range wrongViews() {
		list = append(list, changedDesk(func(d *impl.Desk) { d.View = v }))
	}
	for _, g := range wrongGrammars() {
		list = append(list, changedDesk(func(d *impl.Desk) { d.Grammar = g }))
	}
	for _, points := range wrongLines() {
		list = append(list, changedDesk(func(d *impl.Desk) { d.Points = points }))
	}
	return list
}

// isDesk reports whether desks are the same, without SameDesk.
func isDesk(a, b impl.Desk) bool {
	return a.Map.Kind == b.Map.Kind && sameParts(a.Map.C, b.Map.C) &&
		sameParts(a.View.Middle, b.View.Middle) && sameBits(a.View.Wide, b.View.Wide) && a.View.Columns == b.View.Columns && a.View.Rows == b.View.Rows &&
		a.Grammar.Start == b.Grammar.Start && slices.Equal(a.Grammar.Rules, b.Grammar.Rules) && slices.EqualFunc(a.Points, b.Points, sameParts)
}

func wantDesk(t *testing.T, what string, got impl.Desk, ok bool, want impl.Desk) {
	t.Helper()
	if !ok || !isDesk(got, want) {
		t.Errorf("%s: got %v, %v, want %v", what, got, ok, want)
	}
}

func wantNoDesk(t *testing.T, what string, got impl.Desk, ok bool) {
	t.Helper()
	if ok || !isDesk(got, impl.Desk{}) {
		t.Errorf("%s: got %v, %v, want a failure with a zero value", what, got, ok)
	}
}

func TestNewDesk(t *testing.T) {
	want := impl.Desk{
		Map:     impl.Map{Kind: impl.MapSquare, C: -1},
		View:    impl.View{Middle: 0, Wide: 4, Columns: 4, Rows: 4},
		Grammar: impl.Grammar{Start: "FX", Rules: []impl.Rule{{Letter: "X", Text: "X+YF+"}, {Letter: "Y", Text: "-FX-Y"}}},
		Points:  []complex64{0, 1},
	}
	wantDesk(t, "NewDesk", impl.NewDesk(), true, want)
}

func TestValidDesk(t *testing.T) {
	for i, d := range validDesks() {
		if !impl.ValidDesk(d) {
			t.Errorf("ValidDesk does not take the desk %d, %v", i, d)
		}
	}
	for i, d := range wrongDesks() {
		if impl.ValidDesk(d) {
			t.Errorf("ValidDesk takes the desk %d, %v", i, d)
		}
	}
}

func TestSameDesk(t *testing.T) {
	change := changedDesk
	list := []impl.Desk{
		impl.NewDesk(), {},
		change(func(d *impl.Desk) { d.Map.Kind = 3 }),
		change(func(d *impl.Desk) { d.Map.Kind = 9 }),
		change(func(d *impl.Desk) { d.Map.C = complex(-1, minusZero) }),
		change(func(d *impl.Desk) { d.Map.C = complex(-1, nan) }),
		change(func(d *impl.Desk) { d.View.Middle = complex(minusZero, 0) }),
		change(func(d *impl.Desk) { d.View.Middle = complex(0, minusZero) }),
		change(func(d *impl.Desk) { d.View.Wide = nan }),
		change(func(d *impl.Desk) { d.View.Wide = inf }),
		change(func(d *impl.Desk) { d.View.Columns = 5 }),
		change(func(d *impl.Desk) { d.View.Rows = 5 }),
		change(func(d *impl.Desk) { d.Grammar.Start = "F" }),
		change(func(d *impl.Desk) { d.Grammar.Start = "f" }),
		change(func(d *impl.Desk) { d.Grammar.Rules = d.Grammar.Rules[:1] }),
		change(func(d *impl.Desk) { d.Grammar.Rules = nil }),
		change(func(d *impl.Desk) { d.Points = nil }),
		change(func(d *impl.Desk) { d.Points = []complex64{0} }),
		change(func(d *impl.Desk) { d.Points = []complex64{0, 2} }),
		change(func(d *impl.Desk) { d.Points = []complex64{1, 0} }),
		change(func(d *impl.Desk) { d.Points = []complex64{0, 1, 2} }),
		change(func(d *impl.Desk) { d.Points = []complex64{complex(0, minusZero), 1} }),
		change(func(d *impl.Desk) { d.Points = []complex64{0, complex(1, nan)} }),
		change(func(d *impl.Desk) { d.Points = make([]complex64, 257) }),
	}
	for i, a := range list {
		for k, b := range list {
			b.Points, b.Grammar.Rules = slices.Clone(b.Points), slices.Clone(b.Grammar.Rules)
			wantBool(t, "SameDesk", impl.SameDesk(a, b), i == k)
		}
	}
	// All not-a-numbers are one value, and a nil list is an empty one.
	other := change(func(d *impl.Desk) { d.Map.C = complex(-1, otherNaN) })
	wantBool(t, "SameDesk of other not-a-numbers of C", impl.SameDesk(list[5], other), true)
	other = change(func(d *impl.Desk) { d.View.Wide = otherNaN })
	wantBool(t, "SameDesk of other not-a-numbers of Wide", impl.SameDesk(list[8], other), true)
	other = change(func(d *impl.Desk) { d.Points = []complex64{0, complex(1, otherNaN)} })
	wantBool(t, "SameDesk of other not-a-numbers of Points", impl.SameDesk(list[22], other), true)
	other = change(func(d *impl.Desk) { d.Points = []complex64{} })
	wantBool(t, "SameDesk without points", impl.SameDesk(list[16], other), true)
	other = change(func(d *impl.Desk) { d.Grammar.Rules = []impl.Rule{} })
	wantBool(t, "SameDesk without rules", impl.SameDesk(list[15], other), true)
}
