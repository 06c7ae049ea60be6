package tests

import (
	"math"
	"slices"
	"strings"
	"testing"

	"loop.example/g01318/impl"
)

// groupRow is a picture with what its groups are and how it burns. Groups and
// times are written as digits, 0 to 9 and then a to z, with . for -1.
type groupRow struct {
	picture, groups string
	sizes, spans    []int64
	times           string
	last            int64
	path            []int64
	full, edge      int64
	holes           int64
}

// digits reads what is written so.
func digits(text string) []int64 {
	var list []int64
	for _, c := range strings.ReplaceAll(text, " ", "") {
		list = append(list, int64(strings.IndexRune(".0123456789abcdefghijklmnopqrstuvwxyz", c))-1)
	}
	return list
}

func groupRows() []groupRow {
	return []groupRow{
		{".", ".", nil, nil, ".", -1, nil, 0, 0, 0},
		{"#", "0", []int64{1}, []int64{0}, "0", 0, []int64{0}, 1, 4, 0},
		{"..#.", "..0.", []int64{1}, []int64{0}, "..0.", 0, []int64{2}, 1, 4, 0},
		{"#.##", "0.11", []int64{1, 2}, []int64{0, 1}, "0.00", 0, []int64{0}, 3, 10, 0},
		{"# . #", "0 . 1", []int64{1, 1}, nil, "0 . .", 0, nil, 2, 8, 0},
		{"# # #", "0 0 0", []int64{3}, []int64{0}, "0 1 2", 2, []int64{2, 1, 0}, 3, 8, 0},
		{".. ..", ".. ..", nil, nil, ".. ..", -1, nil, 0, 0, 0},
		{"## ##", "00 00", []int64{4}, []int64{0}, "00 11", 1, []int64{2, 0}, 4, 8, 0},
		// Only sides make one group, and rows do not go on behind their ends.
		{"#. .#", "0. .1", []int64{1, 1}, nil, "0. ..", 0, nil, 2, 8, 0},
		{".# #.", ".0 1.", []int64{1, 1}, nil, ".0 ..", 0, nil, 2, 8, 0},
		{"..# #..", "..0 1..", []int64{1, 1}, nil, "..0 ...", 0, nil, 2, 8, 0},
		{"##. ... .##", "00. ... .11", []int64{2, 2}, nil, "00. ... ...", 0, nil, 4, 12, 0},
		{"### #.# ###", "000 0.0 000", []int64{8}, []int64{0}, "000 1.1 232", 3, []int64{6, 3, 0}, 8, 16, 1},
		{"... .#. ...", "... .0. ...", []int64{1}, nil, "... ... ...", -1, nil, 1, 4, 0},
		{"##### ....# ###.# #...# #####", "00000 ....0 000.0 0...0 00000", []int64{17}, []int64{0}, "00000 ....1 abc.2 9...3 87654", 12, []int64{24, 19, 14, 9, 4}, 17, 36, 0},
		// A group can have cells above that come to be together only below.
		{"#.#.# #.#.# #####", "0.0.0 0.0.0 00000", []int64{11}, []int64{0}, "0.0.0 1.1.1 23232", 3, []int64{10, 5, 0}, 11, 24, 0},
		{"##### #.#.# #.#.#", "00000 0.0.0 0.0.0", []int64{11}, []int64{0}, "00000 1.1.1 2.2.2", 2, []int64{10, 5, 0}, 11, 24, 0},
		{"#.#.## .####. ##.... ...###", "0.1.11 .1111. 11.... ...222", []int64{1, 9, 3}, nil, "0.0.00 .2121. 43.... ......", 4, nil, 13, 32, 0},
		{"##### #...# #.#.# #...# #####", "00000 0...0 0.1.0 0...0 00000", []int64{16, 1}, []int64{0}, "00000 1...1 2...2 3...3 45654", 6, []int64{20, 15, 10, 5, 0}, 17, 36, 1},
		{"##### #.#.# ##### #.#.# #####", "00000 0.0.0 00000 0.0.0 00000", []int64{21}, []int64{0}, "00000 1.1.1 23232 3.3.3 45454", 5, []int64{20, 15, 10, 5, 0}, 21, 36, 4},
		{"#### #..# #.## ####", "0000 0..0 0.00 0000", []int64{13}, []int64{0}, "0000 1..1 2.32 3443", 4, []int64{12, 8, 4, 0}, 13, 24, 1},
		{".##. #..# #..# .##.", ".00. 1..2 1..2 .33.", []int64{2, 2, 2, 2}, nil, ".00. .... .... ....", 0, nil, 8, 24, 1},
		{"#..# #..# #..#", "0..1 0..1 0..1", []int64{3, 3}, []int64{0, 1}, "0..0 1..1 2..2", 2, []int64{8, 4, 0}, 6, 16, 0},
		{".#.#. ##### .#.#. ##### .#.#.", ".0.0. 00000 .0.0. 00000 .0.0.", []int64{16}, []int64{0}, ".0.0. 21212 .2.2. 43434 .4.4.", 4, []int64{21, 16, 11, 6, 1}, 16, 32, 1},
		{".#### .#..# .#.## ...#. ####.", ".0000 .0..0 .0.00 ...0. 0000.", []int64{14}, []int64{0}, ".0000 .1..1 .2.32 ...4. 8765.", 8, []int64{23, 18, 13, 14, 9, 4}, 14, 30, 0},
		{"#.#.# .#.#. #.#.#", "0.1.2 .3.4. 5.6.7", []int64{1, 1, 1, 1, 1, 1, 1, 1}, nil, "0.0.0 ..... .....", 0, nil, 8, 32, 1},
		{"...# ..## .##. ##..", "...0 ..00 .00. 00..", []int64{7}, []int64{0}, "...0 ..21 .43. 65..", 6, []int64{13, 9, 10, 6, 7, 3}, 7, 16, 0},
		{"..#.. ..#.. #.#.# #.#.# ###.#", "..0.. ..0.. 0.0.1 0.0.1 000.1", []int64{9, 3}, []int64{0}, "..0.. ..1.. 8.2.. 7.3.. 654..", 8, []int64{22, 17, 12, 7, 2}, 12, 28, 0},
		{"##.## ..#.. ##.## #...# #####", "00.11 ..2.. 33.33 3...3 33333", []int64{2, 2, 1, 11}, nil, "00.00 ..... ..... ..... .....", 0, nil, 16, 40, 1},
		// Where a way goes on to one of several sides, it is the first one.
		{"#.# ### .#.", "0.0 000 .0.", []int64{6}, []int64{0}, "0.0 121 .3.", 3, []int64{7, 4, 3, 0}, 6, 14, 0},
		{"#.. ##. ### ..#", "0.. 00. 000 ..0", []int64{7}, []int64{0}, "0.. 12. 234 ..5", 5, []int64{11, 8, 7, 4, 3, 0}, 7, 14, 0},
		{".....# .....# ####.# #.#### #.....", ".....0 .....0 0000.0 0.0000 0.....", []int64{13}, []int64{0}, ".....0 .....1 9876.2 a.6543 b.....", 11, []int64{24, 18, 12, 13, 14, 15, 21, 22, 23, 17, 11, 5}, 13, 26, 0},
		{"#..... #..... #.#### ####.# .....#", "0..... 0..... 0.0000 0000.0 .....0", []int64{13}, []int64{0}, "0..... 1..... 2.6789 3456.a .....b", 11, []int64{29, 23, 17, 16, 15, 14, 20, 19, 18, 12, 6, 0}, 13, 26, 0},
		{"......# ..###.# ###.### #.###.. #......", "......0 ..000.0 000.000 0.000.. 0......", []int64{16}, []int64{0}, "......0 ..765.1 a98.432 b.765.. c......", 12, []int64{28, 21, 14, 15, 16, 9, 10, 11, 18, 19, 20, 13, 6}, 16, 32, 1},
		{"#.... #.### #.#.# ###.# ....#", "0.... 0.000 0.0.0 000.0 ....0", []int64{13}, []int64{0}, "0.... 1.789 2.6.a 345.b ....c", 12, []int64{24, 19, 14, 9, 8, 7, 12, 17, 16, 15, 10, 5, 0}, 13, 28, 0},
	}
}

func TestGroups(t *testing.T) {
	for _, r := range groupRows() {
		f := field(r.picture)
		groups, sizes, ok := impl.GroupsOf(f)
		wantIntegers(t, "GroupsOf "+r.picture, groups, ok, digits(r.groups))
		wantIntegers(t, "the sizes of GroupsOf "+r.picture, sizes, ok, r.sizes)
		spans, ok := impl.SpansOf(f)
		wantIntegers(t, "SpansOf "+r.picture, spans, ok, r.spans)
	}
}

func TestBurning(t *testing.T) {
	for _, r := range groupRows() {
		f := field(r.picture)
		times, last, ok := impl.BurnTimes(f)
		wantIntegers(t, "BurnTimes "+r.picture, times, ok, digits(r.times))
		wantInteger(t, "the last of BurnTimes "+r.picture, last, ok, r.last)
		path, ok := impl.FirstPath(f)
		if r.path == nil {
			wantNoList(t, "FirstPath "+r.picture, path, ok)
		} else {
			wantIntegers(t, "FirstPath "+r.picture, path, ok, r.path)
		}
	}
}

func TestGreatFields(t *testing.T) {
	rows := []struct {
		f             impl.Field
		full          int64
		groups        uint32
		count         int
		sizes         uint32
		spans         []int64
		times         uint32
		last          int64
		long          int
		path          uint32
		edge, holesOf int64
	}{
		{allAlike(16, 16, false), 0, 0xd61df000, 0, 0, nil, 0xd61df000, -1, 0, 0, 0, 0},
		{allAlike(16, 16, true), 256, 0, 1, 0x00000100, []int64{0}, 0x1c477800, 15, 16, 0x38c7ef80, 64, 0},
		{checkered(), 128, 0x67835600, 128, 0xa1310800, nil, 0xa0cf17f8, 0, 0, 0, 512, 98},
		{snakeField(), 136, 0x7cb35f80, 1, 0x00000088, []int64{0}, 0x7ce113b4, 120, 121, 0x6ac7f68b, 274, 0},
		{speckled(16, 16, 30), 84, 0x925191b0, 33, 0xc734ce4c, nil, 0x76c96fbf, 0, 0, 0, 226, 6},
		{speckled(16, 16, 50), 129, 0x12a4c165, 17, 0xceb13add, []int64{2, 4}, 0x2f6008ad, 22, 22, 0x7ed1f3e3, 272, 6},
		{speckled(16, 16, 60), 150, 0xb5bb5e73, 8, 0x6dbd7214, []int64{0}, 0xe8dd0065, 24, 20, 0x0c9988b1, 288, 18},
		{speckled(16, 16, 70), 165, 0x376fb49a, 6, 0x1115f321, []int64{0}, 0x00d37116, 21, 19, 0xdc542fba, 288, 25},
		{speckled(13, 16, 60), 123, 0x841f26c0, 3, 0x0001bf15, []int64{0}, 0xdeafce8c, 27, 21, 0xc8d3ce5c, 230, 14},
		{speckled(16, 11, 66), 111, 0xed3b4ab3, 6, 0xa594c5c9, []int64{0}, 0x0c093ed6, 19, 11, 0xc756741a, 204, 13},
		{speckled(16, 1, 50), 9, 0x868923a6, 5, 0x00394aa3, []int64{0, 1, 2, 3, 4}, 0x2d6e5f81, 0, 1, 0, 28, 0},
		{speckled(1, 16, 50), 9, 0x868923a6, 5, 0x00394aa3, nil, 0x25710842, 3, 0, 0, 28, 0},
	}
	for i, r := range rows {
		full, ok := impl.CountCells(r.f)
		wantInteger(t, "CountCells", full, ok, r.full)
		groups, sizes, ok := impl.GroupsOf(r.f)
		if !ok || digestOf(groups) != r.groups || len(sizes) != r.count || digestOf(sizes) != r.sizes {
			t.Errorf("GroupsOf the great field %d is %v with %v, %v", i, groups, sizes, ok)
		}
		spans, ok := impl.SpansOf(r.f)
		wantIntegers(t, "SpansOf a great field", spans, ok, r.spans)
		times, last, ok := impl.BurnTimes(r.f)
		wantInteger(t, "the last of BurnTimes of a great field", last, ok, r.last)
		if digestOf(times) != r.times {
			t.Errorf("BurnTimes of the great field %d is %v", i, times)
		}
		path, ok := impl.FirstPath(r.f)
		if ok != (r.long > 0) || len(path) != r.long || digestOf(path) != r.path {
			t.Errorf("FirstPath of the great field %d is %v, %v", i, path, ok)
		}
		edge, ok := impl.EdgeOfField(r.f)
		wantInteger(t, "EdgeOfField of a great field", edge, ok, r.edge)
		holes, ok := impl.HolesOf(r.f)
		wantInteger(t, "HolesOf a great field", holes, ok, r.holesOf)
	}
}

func TestGroupsFail(t *testing.T) {
	for _, f := range wrongFields() {
		groups, sizes, ok := impl.GroupsOf(f)
		wantNoList(t, "GroupsOf a wrong field", groups, ok)
		wantNoList(t, "the sizes of GroupsOf a wrong field", sizes, ok)
		spans, ok := impl.SpansOf(f)
		wantNoList(t, "SpansOf a wrong field", spans, ok)
		times, last, ok := impl.BurnTimes(f)
		wantNoList(t, "BurnTimes of a wrong field", times, ok)
		wantNone(t, "the last of BurnTimes of a wrong field", last, ok)
		path, ok := impl.FirstPath(f)
		wantNoList(t, "FirstPath of a wrong field", path, ok)
	}
}

// manyFields are drawn fields of all sizes, sparse ones and dense ones.
func manyFields() []impl.Field {
	var list []impl.Field
	for seed := int64(3); len(list) < 600; seed = (1103515245*seed + 12345) % 2147483648 {
		share := float32(len(list)%11) / 10
		f, _, ok := impl.DrawnField(seed/65536%16+1, seed/1048576%16+1, share, seed)
		if !ok {
			panic("a field is not drawn")
		}
		list = append(list, f)
	}
	return list
}

// neighbours returns the pairs of cells of which the latter is to the right of or below the former.
func neighbours(f impl.Field) [][2]int64 {
	var pairs [][2]int64
	for y := range f.High {
		for x := range f.Wide {
			if x+1 < f.Wide {
				pairs = append(pairs, [2]int64{y*f.Wide + x, y*f.Wide + x + 1})
			}
			if y+1 < f.High {
				pairs = append(pairs, [2]int64{y*f.Wide + x, (y+1)*f.Wide + x})
			}
		}
	}
	return pairs
}

// TestGroupsHaveAllFullCells holds promise 8.
func TestGroupsHaveAllFullCells(t *testing.T) {
	for _, f := range manyFields() {
		groups, sizes, ok := impl.GroupsOf(f)
		if !ok || len(groups) != len(f.Cells) {
			t.Fatalf("GroupsOf has %d numbers for %d cells, %v", len(groups), len(f.Cells), ok)
		}
		counts := make([]int64, len(sizes))
		next := int64(0)
		for i, n := range groups {
			wantBool(t, "whether a cell has a group", n >= 0, f.Cells[i])
			if n > next || n >= int64(len(sizes)) || n < -1 {
				t.Fatalf("a cell has the group %d behind %d of them", n, next)
			}
			if n == next {
				next++
			}
			if n >= 0 {
				counts[n]++
			}
		}
		wantIntegers(t, "the sizes of GroupsOf", sizes, ok, counts)
		full, ok := impl.CountCells(f)
		sum := int64(0)
		for _, size := range sizes {
			sum += size
		}
		wantInteger(t, "CountCells", full, ok, sum)
		for _, p := range neighbours(f) {
			if f.Cells[p[0]] && f.Cells[p[1]] && groups[p[0]] != groups[p[1]] {
				t.Errorf("GroupsOf parts the cells %v of %v", p, f)
			}
		}
	}
}

// TestCellsBurnToTheLastRow holds that they do so just if a group goes there, and only then there is a way up.
func TestCellsBurnToTheLastRow(t *testing.T) {
	for _, f := range manyFields() {
		groups, _, _ := impl.GroupsOf(f)
		spans, one := impl.SpansOf(f)
		times, last, two := impl.BurnTimes(f)
		path, goes := impl.FirstPath(f)
		if !one || !two || last != slices.Max(times) {
			t.Fatalf("SpansOf or BurnTimes of %v fails", f)
		}
		above, below := groups[:f.Wide], groups[int64(len(groups))-f.Wide:]
		for i, time := range times {
			burns := f.Cells[i] && slices.Contains(above, groups[i])
			wantBool(t, "whether a cell burns", time >= 0, burns)
		}
		for n := int64(0); n <= slices.Max(groups); n++ {
			wantBool(t, "whether a group spans", slices.Contains(spans, n), slices.Contains(above, n) && slices.Contains(below, n))
		}
		wantBool(t, "whether cells burn to the last row", slices.Max(times[int64(len(times))-f.Wide:]) >= 0, len(spans) > 0)
		wantBool(t, "whether there is a way up", goes, len(spans) > 0)
		for k, i := range path {
			if times[i] != int64(len(path)-1-k) {
				t.Errorf("FirstPath %v does not go down in time", path)
			}
		}
	}
}

func TestInvadeFrom(t *testing.T) {
	rows := []struct {
		weights   []float32
		wide      int64
		high      int64
		at, count int64
		want      []int64
	}{
		{[]float32{5}, 1, 1, 0, 1, []int64{0}},
		{[]float32{0, 3, 1, 2}, 2, 2, 0, 4, []int64{0, 2, 3, 1}},
		{[]float32{0, 3, 1, 2}, 2, 2, 1, 4, []int64{1, 0, 2, 3}},
		{[]float32{0, 3, 1, 2}, 2, 2, 3, 1, []int64{3}},
		{[]float32{0, 3, 1, 2}, 2, 2, 3, 2, []int64{3, 2}},
		// The first one of several is taken, be it with a zero with a sign or without.
		{[]float32{1, 1, 1, 1, 1, 1, 1, 1, 1}, 3, 3, 4, 9, []int64{4, 1, 0, 2, 3, 5, 6, 7, 8}},
		{[]float32{0, minusZero, 0, minusZero, 5, 0, 0, minusZero, 0}, 3, 3, 4, 9, []int64{4, 1, 0, 2, 3, 5, 6, 7, 8}},
		{[]float32{9, 8, 7, 6, 5, 4, 3, 2, 1}, 3, 3, 0, 9, []int64{0, 3, 6, 7, 8, 5, 4, 2, 1}},
		{[]float32{1, 2, 3, 4, 5, 6, 7, 8, 9}, 3, 3, 8, 9, []int64{8, 5, 2, 1, 0, 3, 4, 6, 7}},
		{[]float32{3, 1, 0, 1, -3}, 5, 1, 2, 5, []int64{2, 1, 3, 4, 0}},
		{[]float32{3, 1, 0, 1, -3}, 1, 5, 2, 5, []int64{2, 1, 3, 4, 0}},
		{[]float32{-1, -2, -3, 3, 2, 1}, 3, 2, 0, 6, []int64{0, 1, 2, 5, 4, 3}},
		{[]float32{0, 3, 0, 3, 1, 0, 1, 0, 1, 1, 1, 0}, 4, 3, 5, 12, []int64{5, 4, 0, 6, 2, 7, 11, 8, 9, 10, 1, 3}},
		{[]float32{-2, -1.25, -0.5, 2, 1.25, 1.75, 1, -0.75, 2.25, -1.75, -1.5, -2.25}, 3, 4, 11, 9, []int64{11, 10, 9, 7, 6, 4, 1, 0, 2}},
	}
	for _, r := range rows {
		got, ok := impl.InvadeFrom(r.weights, r.wide, r.high, r.at, r.count)
		wantIntegers(t, "InvadeFrom", got, ok, r.want)
	}
}

// burdens are weights by a short rule.
func burdens(wide, high int64) []float32 {
	weights := make([]float32, wide*high)
	for i := range weights {
		weights[i] = float32(i*i*37%101-50) / 7
	}
	return weights
}

func TestInvasionsOfGreatFields(t *testing.T) {
	rows := []struct {
		wide, high int64
		threshold  float32
		orders     [3]uint32
	}{
		{16, 16, number(0xbf36db6e), [3]uint32{0xd13f2ff8, 0x0fcdccec, 0x9d96c4a2}},
		{16, 1, number(0xc0e49249), [3]uint32{0xe4c87008, 0x5cd7f380, 0x00d9f00d}},
		{1, 16, number(0x40d24925), [3]uint32{0xe4c87008, 0x5cd7f380, 0x00d9f00d}},
		{11, 16, number(0x4036db6e), [3]uint32{0xb24c03e6, 0x56bf271a, 0x90c4fcfc}},
	}
	for _, r := range rows {
		weights, cells := burdens(r.wide, r.high), r.wide*r.high
		threshold, ok := impl.ThresholdOf(weights, r.wide, r.high)
		wantSum(t, "ThresholdOf great weights", threshold, ok, r.threshold)
		for i, from := range [][2]int64{{0, cells}, {cells / 2, cells}, {cells - 1, cells / 3}} {
			got, ok := impl.InvadeFrom(weights, r.wide, r.high, from[0], from[1])
			if !ok || int64(len(got)) != from[1] || digestOf(got) != r.orders[i] {
				t.Errorf("InvadeFrom %v is %v, %v", from, got, ok)
			}
		}
	}
}

func TestThresholdOf(t *testing.T) {
	rows := []struct {
		weights    []float32
		wide, high int64
		want       float32
	}{
		{[]float32{5}, 1, 1, 5},
		{[]float32{minusZero}, 1, 1, minusZero},
		{[]float32{0, 3, 1, 2}, 2, 2, 1},
		{[]float32{3, 1, 2}, 3, 1, 1},
		{[]float32{3, 1, 2}, 1, 3, 3},
		{[]float32{1, 1, 1, 1, 1, 1, 1, 1, 1}, 3, 3, 1},
		// The first one of equal weights tells, even if it is not in the group.
		{[]float32{0, minusZero}, 2, 1, 0},
		{[]float32{minusZero, 0}, 2, 1, minusZero},
		{[]float32{0, 1, minusZero, 1}, 2, 2, 0},
		{[]float32{minusZero, 1, 0, 1}, 2, 2, minusZero},
		{[]float32{1, 0, 1, minusZero}, 2, 2, 0},
		{[]float32{1, minusZero, 0, minusZero}, 2, 2, minusZero},
		{[]float32{0, 5, minusZero, 5, 5, minusZero}, 3, 2, 0},
		{[]float32{minusZero, 5, 0, 5, 5, 0}, 3, 2, minusZero},
		{[]float32{1, 9, 9, 2, 3, 9, 9, 4, 5}, 3, 3, 4},
		{[]float32{-1, -9, -9, -2, -3, -9, -9, -4, -5}, 3, 3, -5},
		{[]float32{1, 9, 1, 1, 9, 1, 9, 9, 1}, 3, 3, 1},
		{[]float32{1, 9, 9, 9, 9, 2, 9, 5, 5, 6, 3, 9, 5, 9, 6, 3, 4, 4, 9, 7, 9, 9, 9, 9, 7}, 5, 5, 7},
		{[]float32{0.75, 0.25, -0.75, -0.75, 0.25, 0.75, 0.5, -0.5, -0.75, -0.75, 1, 2.25}, 4, 3, 0.75},
		{[]float32{mostNumber, -mostNumber, mostNumber, 1}, 2, 2, 1},
	}
	for _, r := range rows {
		got, ok := impl.ThresholdOf(r.weights, r.wide, r.high)
		wantSum(t, "ThresholdOf", got, ok, r.want)
	}
}

// TestThresholdsSpan holds that a group goes down with the threshold, and none with any lesser weight.
func TestThresholdsSpan(t *testing.T) {
	for wide := int64(1); wide <= 16; wide += 3 {
		for high := int64(1); high <= 16; high += 3 {
			weights := burdens(wide, high)
			threshold, ok := impl.ThresholdOf(weights, wide, high)
			wantBool(t, "whether a threshold is one of the weights", ok && slices.Contains(weights, threshold), true)
			for _, most := range weights {
				f := allAlike(wide, high, false)
				for i, weight := range weights {
					f.Cells[i] = weight <= most
				}
				spans, _ := impl.SpansOf(f)
				wantBool(t, "whether a group goes down", len(spans) > 0, most >= threshold)
			}
		}
	}
}

func TestWeightsFail(t *testing.T) {
	fails := func(what string, weights []float32, wide, high, at, count int64) {
		t.Helper()
		order, ok := impl.InvadeFrom(weights, wide, high, at, count)
		wantNoList(t, "InvadeFrom "+what, order, ok)
	}
	both := func(what string, weights []float32, wide, high int64) {
		t.Helper()
		fails(what, weights, wide, high, 0, 1)
		threshold, ok := impl.ThresholdOf(weights, wide, high)
		wantNone(t, "ThresholdOf "+what, threshold, ok)
	}
	six := []float32{3, 1, 2, 6, 5, 4}
	for _, f := range wrongFields() {
		both("with wrong sides", make([]float32, len(f.Cells)), f.Wide, f.High)
	}
	both("with too few weights", six[:5], 3, 2)
	both("with too many weights", append(six, 7), 3, 2)
	both("without weights", nil, 1, 1)
	for _, x := range endlessNumbers() {
		both("with a wrong weight", []float32{x}, 1, 1)
		both("with a wrong weight", []float32{3, 1, 2, 6, 5, x}, 3, 2)
	}
	for _, at := range []int64{-1, 6, 7, math.MaxInt64, math.MinInt64} {
		fails("a wrong cell", six, 3, 2, at, 1)
	}
	for _, count := range []int64{0, -1, 7, 256, math.MaxInt64, math.MinInt64} {
		fails("too many cells", six, 3, 2, 0, count)
	}
}
