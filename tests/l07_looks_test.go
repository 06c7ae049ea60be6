package tests

import (
	"math"
	"testing"

	"loop.example/g01318/impl"
)

func TestEdgesAndHoles(t *testing.T) {
	for _, r := range groupRows() {
		f := field(r.picture)
		full, ok := impl.CountCells(f)
		wantInteger(t, "CountCells "+r.picture, full, ok, r.full)
		edge, ok := impl.EdgeOfField(f)
		wantInteger(t, "EdgeOfField "+r.picture, edge, ok, r.edge)
		holes, ok := impl.HolesOf(f)
		wantInteger(t, "HolesOf "+r.picture, holes, ok, r.holes)
	}
	for _, f := range wrongFields() {
		edge, ok := impl.EdgeOfField(f)
		wantNone(t, "EdgeOfField of a wrong field", edge, ok)
		holes, ok := impl.HolesOf(f)
		wantNone(t, "HolesOf a wrong field", holes, ok)
	}
}

// TestEdgesOfManyFields holds that each full cell has four sides, but for those between two of them.
func TestEdgesOfManyFields(t *testing.T) {
	for _, f := range manyFields() {
		want := 4 * int64(len(fullOnes(f)))
		for _, p := range neighbours(f) {
			if f.Cells[p[0]] && f.Cells[p[1]] {
				want -= 2
			}
		}
		edge, ok := impl.EdgeOfField(f)
		wantInteger(t, "EdgeOfField", edge, ok, want)
	}
}

// TestHolesInFrames holds that a frame of full cells makes a hole of each group of others, and takes none away.
func TestHolesInFrames(t *testing.T) {
	for _, f := range manyFields() {
		if f.Wide > 14 || f.High > 14 {
			continue
		}
		framed, other := allAlike(f.Wide+2, f.High+2, true), allAlike(f.Wide, f.High, true)
		for i, full := range f.Cells {
			x, y := int64(i)%f.Wide, int64(i)/f.Wide
			framed.Cells[(y+1)*framed.Wide+x+1] = full
			other.Cells[i] = !full
		}
		_, sizes, _ := impl.GroupsOf(other)
		holes, ok := impl.HolesOf(framed)
		wantInteger(t, "HolesOf a field in a frame", holes, ok, int64(len(sizes)))
	}
}

func TestMiddleOf(t *testing.T) {
	rows := []struct {
		f    impl.Field
		want complex64
		wide float32
	}{
		{field("#"), 0, 0},
		{field(". . #"), 2i, 0},
		{field("...#"), 3, 0},
		{field("##"), 0.5, 0.5},
		{field("# #"), 0.5i, 0.5},
		{field("### #.# ###"), complex(1, 1), number(0x3f9cc471)},
		{field("#.. ... ..#"), complex(1, 1), number(0x3fb504f3)},
		{field("#..... ...... .....#"), complex(2.5, 1), number(0x402c5345)},
		{field("##. #.."), at(0x3eaaaaab3eaaaaab), number(0x3f2aaaaa)},
		{field("..#.. ..#.. #.#.# #.#.# ###.#"), at(0x3ff55555402aaaab), number(0x3ff3f025)},
		{field("......# ..###.# ###.### #.###.. #......"), complex(3, 2), number(0x4012a476)},
		{field("#.#.# .#.#. #.#.#"), complex(2, 1), number(0x3fddb3d7)},
		{field(".##.###.#######."), at(0x40fd555500000000), number(0x40843c48)},
		{field(". # # . # . . #"), 3.5i, number(0x4012a476)},
		{speckled(16, 16, 30), at(0x40f73cf440f0c30c), number(0x40d3bc8d)},
		{speckled(16, 16, 60), at(0x40f06d3a40f06d3a), number(0x40d1c9d1)},
		{speckled(13, 16, 60), at(0x40bbd66040f278b7), number(0x40bd82cb)},
		{speckled(16, 11, 66), at(0x40f350b940a12735), number(0x40b67381)},
		{allAlike(16, 16, true), complex(7.5, 7.5), number(0x40d09d4e)},
	}
	for _, r := range rows {
		middle, wide, ok := impl.MiddleOf(r.f)
		wantBool(t, "whether MiddleOf succeeds", ok, true)
		wantComplex(t, "MiddleOf", middle, r.want)
		wantNumber(t, "how wide MiddleOf is", wide, r.wide)
	}
	for _, f := range append(wrongFields(), field("."), field(".. .."), allAlike(16, 16, false)) {
		middle, wide, ok := impl.MiddleOf(f)
		wantNone(t, "MiddleOf nothing", middle, ok)
		wantNone(t, "how wide MiddleOf nothing is", wide, ok)
	}
}

func TestMassesOf(t *testing.T) {
	rows := []struct {
		f      impl.Field
		middle complex64
		count  int64
		want   []int64
	}{
		{field("### #.# ###"), complex(1, 1), 2, []int64{4, 8}},
		{field("#"), 0, 1, []int64{1}},
		{field("."), 0, 3, []int64{0, 0, 0}},
		// A cell that is just so far away counts.
		{field("#"), 1, 2, []int64{1, 1}},
		{field("#"), complex(afterOne, 0), 2, []int64{0, 1}},
		{field("#"), complex(0, -afterOne), 2, []int64{0, 1}},
		{field("#"), complex(beforeOne, 0), 2, []int64{1, 1}},
		{field("#"), -2i, 3, []int64{0, 1, 1}},
		// Differences are rounded to 32 bits.
		{field("...#"), -1e-8, 4, []int64{0, 0, 1, 1}},
		{field("#..#"), 1e-30, 3, []int64{1, 1, 2}},
		{field("##### ##### #####"), complex(2, 1), 4, []int64{5, 11, 15, 15}},
		{field("##### ##### #####"), complex(0, minusZero), 16, []int64{3, 6, 10, 13, 15, 15, 15, 15, 15, 15, 15, 15, 15, 15, 15, 15}},
		{field("##### ##### #####"), complex(4, 2), 5, []int64{3, 6, 10, 13, 15}},
		{field("##### ##### #####"), complex(1.5, 0.5), 3, []int64{4, 10, 15}},
		{field("#...# ..... ....#"), complex(3, 4), 6, []int64{0, 0, 1, 1, 3, 3}},
		{field("#...# ..... ....#"), complex(-3, -4), 16, []int64{0, 0, 0, 0, 1, 1, 1, 1, 2, 3, 3, 3, 3, 3, 3, 3}},
		// A distance can be no finite number.
		{field("##"), complex(3e38, -3e38), 2, []int64{0, 0}},
		{field("##"), complex(-mostNumber, mostNumber), 16, make([]int64, 16)},
		{speckled(16, 16, 60), complex(8, 8), 16, []int64{2, 7, 15, 30, 47, 66, 89, 113, 134, 147, 149, 150, 150, 150, 150, 150}},
		{speckled(16, 16, 60), 0, 16, []int64{2, 4, 7, 10, 15, 22, 28, 36, 45, 54, 64, 73, 86, 97, 111, 125}},
		{speckled(16, 16, 30), complex(7.25, -1.5), 16, []int64{0, 1, 3, 5, 11, 19, 21, 27, 35, 36, 45, 52, 60, 67, 67, 74}},
		{speckled(13, 16, 60), complex(12, 15), 16, []int64{2, 4, 7, 11, 15, 20, 27, 33, 45, 53, 63, 72, 88, 94, 106, 111}},
	}
	for _, r := range rows {
		got, ok := impl.MassesOf(r.f, r.middle, r.count)
		wantIntegers(t, "MassesOf", got, ok, r.want)
		fewer, ok := impl.MassesOf(r.f, r.middle, (r.count+1)/2)
		wantIntegers(t, "MassesOf fewer", fewer, ok, r.want[:(r.count+1)/2])
	}
}

func TestMassesOfFails(t *testing.T) {
	fails := func(what string, f impl.Field, middle complex64, count int64) {
		t.Helper()
		got, ok := impl.MassesOf(f, middle, count)
		wantNoList(t, "MassesOf "+what, got, ok)
	}
	for _, f := range wrongFields() {
		fails("a wrong field", f, 0, 1)
	}
	for _, middle := range endlessParts() {
		fails("a wrong middle", field("#"), middle, 1)
	}
	for _, count := range []int64{0, -1, 17, 256, math.MaxInt64, math.MinInt64} {
		fails("a wrong count", field("#"), 0, count)
		fails("a wrong count", allAlike(16, 16, false), 0, count)
	}
}
