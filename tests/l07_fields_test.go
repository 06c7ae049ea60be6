package tests

import (
	"math"
	"slices"
	"strings"
	"testing"

	"loop.example/g01318/impl"
)

// The numbers and pictures in the tables of the tests of chapter 7 were computed outside of Go, from the document.

func TestLimitsOfChapter7(t *testing.T) {
	if impl.MaxField != 16 || impl.MaxWalk != 512 || impl.MaxShapes != 8 {
		t.Error("a limit of chapter 7 is not as told")
	}
}

// field reads a field from its rows, with # for full cells and blanks between rows.
func field(picture string) impl.Field {
	rows := strings.Fields(picture)
	return impl.Field{Wide: int64(len(rows[0])), High: int64(len(rows)), Cells: maskOf(rows...)}
}

// allAlike returns a field whose cells are all full, or all not.
func allAlike(wide, high int64, full bool) impl.Field {
	return impl.Field{Wide: wide, High: high, Cells: repeated(full, int(wide*high))}
}

// speckled returns a field with full cells by a short rule.
func speckled(wide, high, share int64) impl.Field {
	f := allAlike(wide, high, false)
	for i := range wide * high {
		f.Cells[i] = i*i*37%101 < share
	}
	return f
}

// checkered is the field with the most groups.
func checkered() impl.Field {
	f := allAlike(16, 16, false)
	for i := range f.Cells {
		f.Cells[i] = i%2 == i/16%2
	}
	return f
}

// snakeField is the field with the longest way up.
func snakeField() impl.Field {
	whole, right, left := strings.Repeat("#", 16), strings.Repeat(".", 15)+"#", "#"+strings.Repeat(".", 15)
	return field(strings.Repeat(strings.Join([]string{whole, right, whole, left, ""}, " "), 4))
}

// fullOnes returns the indices of all full cells.
func fullOnes(f impl.Field) []int64 {
	var list []int64
	for i, full := range f.Cells {
		if full {
			list = append(list, int64(i))
		}
	}
	return list
}

func wantField(t *testing.T, what string, got impl.Field, ok bool, want impl.Field) {
	t.Helper()
	if !ok || got.Wide != want.Wide || got.High != want.High || !slices.Equal(got.Cells, want.Cells) {
		t.Errorf("%s: got %v, %v, want %v", what, got, ok, want)
	}
}

func wantNoField(t *testing.T, what string, got impl.Field, ok bool) {
	t.Helper()
	if ok || got.Wide != 0 || got.High != 0 || len(got.Cells) != 0 {
		t.Errorf("%s: got %v, %v, want a failure without a field", what, got, ok)
	}
}

func validFields() []impl.Field {
	return []impl.Field{
		field("."), field("#"), field("..#"), field(". . #"), field("##. #.#"), allAlike(16, 16, true), allAlike(16, 16, false),
		allAlike(16, 1, true), allAlike(1, 16, false), checkered(), snakeField(), speckled(13, 16, 60),
	}
}

// wrongFields are fields with sides that are not valid, or with too few or too many cells.
func wrongFields() []impl.Field {
	return []impl.Field{
		{}, {Wide: 1, High: 1}, {Wide: 1, High: 1, Cells: maskOf("##")}, {Wide: 2, High: 2, Cells: maskOf("###")},
		{Wide: 2, High: 2, Cells: maskOf("#####")}, {Wide: 0, High: 1}, {Wide: 1, High: 0}, {Wide: 0, High: 0, Cells: maskOf("#")},
		{Wide: -1, High: -1, Cells: maskOf("#")}, {Wide: -2, High: -2, Cells: maskOf("####")}, {Wide: 1 << 32, High: 1 << 32},
		{Wide: math.MaxInt64, High: math.MaxInt64, Cells: maskOf("#")}, {Wide: math.MinInt64, High: math.MinInt64}, {Wide: math.MinInt64, High: 2},
		allAlike(17, 1, true), allAlike(1, 17, true), allAlike(17, 16, false), allAlike(16, 17, true), allAlike(32, 8, true), allAlike(256, 1, true),
	}
}

func TestValidField(t *testing.T) {
	for _, f := range validFields() {
		wantBool(t, "ValidField", impl.ValidField(f), true)
	}
	for _, f := range wrongFields() {
		if impl.ValidField(f) {
			t.Errorf("ValidField %v is true", f)
		}
	}
}

func TestSameField(t *testing.T) {
	list := append(validFields(), wrongFields()...)
	list = append(list, field("..."), field(". . ."), field("#.."), field(".#."), field("#. .."), field(".# .."), field(".. .#"))
	for i, a := range list {
		for k, b := range list {
			// Whether fields are valid does not matter.
			wantBool(t, "SameField", impl.SameField(a, b), i == k)
		}
		again := impl.Field{Wide: a.Wide, High: a.High, Cells: roomy(a.Cells, true)}
		wantBool(t, "SameField of equal cells", impl.SameField(a, again), true)
	}
	wantBool(t, "SameField of no cells", impl.SameField(impl.Field{Wide: 3}, impl.Field{Wide: 3, Cells: []bool{}}), true)
	large, other := repeated(true, 5000), repeated(true, 5000)
	other[4999] = false
	wantBool(t, "SameField of many cells", impl.SameField(impl.Field{Cells: large}, impl.Field{Cells: other}), false)
	wantBool(t, "SameField of many cells", impl.SameField(impl.Field{Cells: large}, impl.Field{Cells: slices.Clone(large)}), true)
	wantBool(t, "SameField of more cells", impl.SameField(impl.Field{Cells: large}, impl.Field{Cells: large[:4999]}), false)
}

func TestEmptyField(t *testing.T) {
	for wide := int64(1); wide <= 16; wide++ {
		for high := int64(1); high <= 16; high++ {
			got, ok := impl.EmptyField(wide, high)
			wantField(t, "EmptyField", got, ok, allAlike(wide, high, false))
		}
	}
	for _, side := range []int64{0, -1, 17, 256, 1 << 32, math.MaxInt64, math.MinInt64} {
		for _, other := range []int64{1, 16, side} {
			got, ok := impl.EmptyField(side, other)
			wantNoField(t, "EmptyField too wide", got, ok)
			got, ok = impl.EmptyField(other, side)
			wantNoField(t, "EmptyField too high", got, ok)
		}
	}
}

// Behind these seeds, 0, 16383, 16384 and 32767 are drawn from 0 to 32767.
const (
	seedOfNone    = 0
	seedOfBelow   = 1304279838
	seedOfHalf    = 1014474371
	seedOfTheMost = 345702400
)

func TestDrawnField(t *testing.T) {
	rows := []struct {
		share float32
		seed  int64
		want  string
		last  int64
	}{
		{0, 0, ".. ..", 1449466924},
		{1, 0, "## ##", 1449466924},
		// The number that is drawn must be less than the share of 32768.
		{0.5, seedOfHalf, ".", 1073741824},
		{number(0x3f000001), seedOfHalf, "#", 1073741824},
		{0.5, seedOfBelow, "#", 1073741823},
		{leastNumber, seedOfNone, "#", 12345},
		{0, seedOfNone, ".", 12345},
		{minusZero, seedOfNone, ".", 12345},
		{number(0x3f7ffe00), seedOfTheMost, ".", 2147430457},
		{beforeOne, seedOfTheMost, "#", 2147430457},
		{1, seedOfTheMost, "#", 2147430457},
		{0.5, 7, ".##.. #..## #...#", 49126646},
		{0.5, 7, ".## ..# ..# ##. ..#", 49126646},
		{0.25, 2147483647, ".#...... #...##.#", 94299887},
		{number(0x3f19999a), 1234567, ".####.######.###", 1224241015},
		{number(0x3f19999a), 1234567, ". # # # # . # # # # # # . # # #", 1224241015},
		{number(0x3f17ced9), 99, ".#..### #.#..## #..#### #..##.#", 624733351},
	}
	for _, r := range rows {
		want := field(r.want)
		got, last, ok := impl.DrawnField(want.Wide, want.High, r.share, r.seed)
		wantField(t, "DrawnField", got, ok, want)
		wantInteger(t, "the seed of DrawnField", last, ok, r.last)
	}
	got, last, ok := impl.DrawnField(16, 16, number(0x3f17ced9), 20)
	wantInteger(t, "the seed of a large DrawnField", last, ok, 2131755796)
	if len(fullOnes(got)) != 148 || digestOf(fullOnes(got)) != 0xc426b400 {
		t.Errorf("a large DrawnField is %v", got)
	}
	got, last, ok = impl.DrawnField(16, 16, 1, 20)
	wantField(t, "DrawnField of all cells", got, ok, allAlike(16, 16, true))
	wantInteger(t, "the seed of DrawnField of all cells", last, ok, 2131755796)
}

func TestDrawnFieldFails(t *testing.T) {
	fails := func(what string, wide, high int64, share float32, seed int64) {
		t.Helper()
		got, last, ok := impl.DrawnField(wide, high, share, seed)
		wantNoField(t, "DrawnField "+what, got, ok)
		wantNone(t, "the seed of DrawnField "+what, last, ok)
	}
	for _, side := range []int64{0, -1, 17, 1 << 32, math.MaxInt64, math.MinInt64} {
		fails("of a wrong side", side, 1, 0.5, 5)
		fails("of a wrong side", 1, side, 0.5, 5)
	}
	for _, share := range append(endlessNumbers(), -leastNumber, -1, afterOne, 2, mostNumber) {
		fails("with a wrong share", 2, 2, share, 5)
	}
	for _, seed := range wrongSeeds() {
		fails("with a wrong seed", 2, 2, 0.5, seed)
	}
}

// wrongSets are lists that are no sets of cells of a field with 6 of them.
func wrongSets() [][]int64 {
	return [][]int64{
		{-1}, {6}, {0, 1, 2, 3, 4, 5, 6}, {1, 1}, {0, 0}, {2, 1}, {0, 1, 3, 2}, {-1, 0}, {0, 5, 5}, {0, 1, -2},
		{math.MaxInt64}, {math.MinInt64}, {0, math.MaxInt64}, {0, math.MaxInt64, math.MinInt64}, {5, 4294967296}, repeated(int64(1), 5000),
	}
}

func TestFlipCells(t *testing.T) {
	rows := []struct {
		picture string
		list    []int64
		want    string
	}{
		{"#.# .#.", nil, "#.# .#."},
		{"#.# .#.", []int64{}, "#.# .#."},
		{"#.# .#.", []int64{0}, "..# .#."},
		{"#.# .#.", []int64{5}, "#.# .##"},
		{"#.# .#.", []int64{1, 2, 3}, "##. ##."},
		{"#.# .#.", []int64{0, 1, 2, 3, 4, 5}, ".#. #.#"},
		{"#", []int64{0}, "."},
		{".", []int64{0}, "#"},
	}
	for _, r := range rows {
		got, ok := impl.FlipCells(field(r.picture), r.list)
		wantField(t, "FlipCells", got, ok, field(r.want))
		again, ok := impl.FlipCells(got, r.list)
		wantField(t, "FlipCells of what is flipped", again, ok, field(r.picture))
	}
	got, ok := impl.FlipCells(speckled(16, 16, 60), fullOnes(speckled(16, 16, 60)))
	wantField(t, "FlipCells of all full cells", got, ok, allAlike(16, 16, false))
	got, ok = impl.FlipCells(allAlike(16, 16, true), fullOnes(allAlike(16, 16, true)))
	wantField(t, "FlipCells of all cells", got, ok, allAlike(16, 16, false))
	for _, list := range wrongSets() {
		got, ok := impl.FlipCells(field("#.# .#."), list)
		wantNoField(t, "FlipCells of no set", got, ok)
	}
	for _, f := range wrongFields() {
		for _, list := range [][]int64{nil, {0}} {
			got, ok := impl.FlipCells(f, list)
			wantNoField(t, "FlipCells of a wrong field", got, ok)
		}
	}
}

func TestCountCells(t *testing.T) {
	for picture, want := range map[string]int64{".": 0, "#": 1, "..#": 1, "### #.# ###": 8, ".# #.": 2} {
		got, ok := impl.CountCells(field(picture))
		wantInteger(t, "CountCells", got, ok, want)
	}
	for share, want := range map[int64]int64{0: 0, 30: 84, 60: 150, 101: 256} {
		got, ok := impl.CountCells(speckled(16, 16, share))
		wantInteger(t, "CountCells of many", got, ok, want)
	}
	for _, f := range wrongFields() {
		got, ok := impl.CountCells(f)
		wantNone(t, "CountCells of a wrong field", got, ok)
	}
}
