package tests

import (
	"math"
	"testing"

	"loop.example/g01318/impl"
)

// The third numbers that are drawn from these seeds are the least and the greatest one.
const (
	thirdIsLeast    = 1641780558
	thirdIsGreatest = 1486203808
)

func TestLatticeAt(t *testing.T) {
	rows := []struct {
		seed, x, y int64
		want       float32
	}{
		{0, 0, 0, number(0xbec7e000)},
		{0, 1, 0, number(0xbf614800)},
		{0, 0, 1, number(0xbf732400)},
		{1, 0, 0, number(0xbec3f800)},
		{2147483647, 0, 0, number(0xbecbd000)},
		{2147483647, 1000000, 1000000, number(0xbf482c00)},
		{0, 1000000, 0, number(0xbe84e800)},
		{0, 0, 1000000, number(0xbf67b400)},
		{thirdIsLeast, 0, 0, -1},
		{thirdIsGreatest, 0, 0, number(0x3f7ffc00)},
		{62482679, 598053, 487084, number(0x3f319400)},
		{960940455, 53, 387, number(0x3f790400)},
	}
	for _, r := range rows {
		got, ok := impl.LatticeAt(r.seed, r.x, r.y)
		wantSum(t, "LatticeAt", got, ok, r.want)
	}
	for _, seed := range wrongSeeds() {
		got, ok := impl.LatticeAt(seed, 0, 0)
		wantNone(t, "LatticeAt with a wrong seed", got, ok)
	}
	for _, x := range []int64{-1, 1000001, math.MaxInt64, math.MinInt64} {
		got, ok := impl.LatticeAt(1, x, 0)
		wantNone(t, "LatticeAt with a wrong x", got, ok)
		got, ok = impl.LatticeAt(1, 0, x)
		wantNone(t, "LatticeAt with a wrong y", got, ok)
	}
}

func TestOctaveAt(t *testing.T) {
	rows := []struct {
		seed       int64
		x, y, want float32
	}{
		{0, 0.5, 0, number(0xbf229c00)},
		{0, 0, 0.5, number(0xbf2b8a00)},
		{0, 0.25, 0.75, number(0xbf2cd919)},
		{0, minusZero, minusZero, number(0xbec7e000)},
		{0, leastNumber, beforeOne, number(0xbf732400)},
		{7, 1000, 1000, number(0x3f380c00)},
		{7, number(0x4479ffff), 0, number(0x3d6b4000)},
		{7, 0, number(0x4479ffff), number(0x3ea65000)},
		{995272157, number(0x42b12a16), number(0x442112b4), number(0x3ec902dc)},
		{1839174964, number(0x3ff9b6cb), number(0x40f4add7), number(0x3f07f3e8)},
		{1762655781, number(0x3e2e2c3d), number(0x3ea91c37), number(0xbdb0aa78)},
		{35714097, number(0x3ddb6629), number(0x3f6f0c94), number(0x3f46a3c6)},
	}
	for _, r := range rows {
		got, ok := impl.OctaveAt(r.seed, r.x, r.y)
		wantSum(t, "OctaveAt", got, ok, r.want)
	}
	for _, seed := range wrongSeeds() {
		got, ok := impl.OctaveAt(seed, 0, 0)
		wantNone(t, "OctaveAt with a wrong seed", got, ok)
	}
	for _, x := range append(endlessNumbers(), -leastNumber, -1, number(0x447a0001), 1001, mostNumber, -mostNumber) {
		got, ok := impl.OctaveAt(1, x, 0)
		wantNone(t, "OctaveAt with a wrong x", got, ok)
		got, ok = impl.OctaveAt(1, 0, x)
		wantNone(t, "OctaveAt with a wrong y", got, ok)
	}
}

// TestOctavesMeetTheLattice holds that numbers at integers are those of the lattice, and others are between these.
func TestOctavesMeetTheLattice(t *testing.T) {
	for x := int64(0); x <= 1000; x += 50 {
		for y := int64(0); y <= 1000; y += 125 {
			want, _ := impl.LatticeAt(77, x, y)
			got, ok := impl.OctaveAt(77, float32(x), float32(y))
			wantSum(t, "OctaveAt a place of the lattice", got, ok, want)
			low, high := want, want
			for i := range int64(4) {
				corner, _ := impl.LatticeAt(77, x+i%2, y+i/2)
				low, high = min(low, corner), max(high, corner)
			}
			for _, f := range []float32{0.125, 0.5, 0.875} {
				between, ok := impl.OctaveAt(77, min(float32(x)+f, 1000), min(float32(y)+1-f, 1000))
				if !ok || between < low-1e-6 || between > high+1e-6 {
					t.Errorf("OctaveAt %v beside %d, %d is not between its corners", between, x, y)
				}
			}
		}
	}
}

// octaveRow has the arguments of a sheet of octaves.
type octaveRow struct {
	wide, high, octaves int64
	step, share         float32
	seed                int64
}

// wantOctaves calls both functions that make sheets of octaves.
func wantOctaves(t *testing.T, r octaveRow, want func(s impl.Sheet, ok bool)) {
	t.Helper()
	want(impl.OctaveSheet(r.wide, r.high, r.octaves, r.step, r.share, r.seed))
	for workers := int64(1); workers <= 8; workers++ {
		want(impl.SheetShared(r.wide, r.high, r.octaves, r.step, r.share, r.seed, workers))
	}
}

func TestOctaveSheet(t *testing.T) {
	rows := []struct {
		octaveRow
		want string
	}{
		{octaveRow{1, 1, 1, 1, 0, 0}, "bec7e000"},
		{octaveRow{1, 1, 6, 1, 1, 0}, "c015e800"},
		{octaveRow{1, 1, 6, 1, 0, 0}, "bec7e000"},
		{octaveRow{2, 3, 1, 1, 0.5, 0}, "bec7e000 bf614800 / bf732400 3f0f8800 / 3efb5800 3ab00000"},
		{octaveRow{3, 2, 3, 0.5, 0.5, 1333692745}, "3eed2e00 be8ad000 bf016900 / bec06200 bf1c3300 beb06800"},
		{octaveRow{4, 1, 2, number(0x3ea6496b), number(0x3f1e7b8c), 1032829669}, "3fc490c8 3f992f13 3f50e8c8 3ee2e0b2"},
		{octaveRow{1, 3, 6, number(0x3eef9be7), number(0x3f579f58), 949474626}, "3f46fb0f / bf87f551 / bfb7bebd"},
		{octaveRow{3, 3, 4, number(0x3e9e3edc), number(0x3e25f132), 899190362}, "bf46a32c be677cec 3f00c5d2 / be81373e bc07861a 3ee3470a / 3edfce3e 3ecf0223 3eeb706e"},
		{octaveRow{2, 2, 3, leastNumber, 1, 2147483647}, "bf98dc00 bf98dc00 / bf98dc00 bf98dc00"},
	}
	for _, r := range rows {
		wantOctaves(t, r.octaveRow, func(got impl.Sheet, ok bool) {
			t.Helper()
			wantSheet(t, "a sheet of octaves", got, ok, sheet(r.want))
		})
	}
}

func TestOctaveSheetOfAllSides(t *testing.T) {
	rows := []struct {
		octaveRow
		want uint32
	}{
		{octaveRow{17, 17, 6, 1, 1, 2147483647}, 0x48fb0400},
		{octaveRow{17, 17, 6, number(0x3ebd70a4), number(0x3f19999a), 99}, 0x74c4bb4b},
		{octaveRow{17, 1, 5, number(0x3f666666), number(0x3e99999a), 5}, 0xa87dfff7},
		{octaveRow{1, 17, 5, number(0x3f666666), number(0x3e99999a), 5}, 0xc9edf54f},
	}
	for _, r := range rows {
		wantOctaves(t, r.octaveRow, func(got impl.Sheet, ok bool) {
			t.Helper()
			if !ok || got.Wide != r.wide || got.High != r.high || digest(got.Heights) != r.want {
				t.Errorf("a large sheet of octaves is %v, %v", got, ok)
			}
		})
	}
}

// TestOctavesAreSums holds that a sheet has the sums of what OctaveAt tells, for each number of octaves.
func TestOctavesAreSums(t *testing.T) {
	const step, share = 0.4, 0.7
	sums := make([]float32, 20)
	scale, weight := float32(step), float32(1)
	for octaves := int64(1); octaves <= 6; octaves++ {
		for i := range sums {
			part, _ := impl.OctaveAt(50, float32(i%5)*scale, float32(i/5)*scale)
			sums[i] += float32(weight * part)
		}
		wantOctaves(t, octaveRow{5, 4, octaves, step, share, 50}, func(got impl.Sheet, ok bool) {
			t.Helper()
			wantSheet(t, "a sheet of octaves", got, ok, heights(5, sums...))
		})
		scale *= 2
		weight *= share
	}
}

func TestOctaveSheetFails(t *testing.T) {
	fails := func(what string, r octaveRow) {
		t.Helper()
		wantOctaves(t, r, func(got impl.Sheet, ok bool) {
			t.Helper()
			wantNoSheet(t, "a sheet of octaves "+what, got, ok)
		})
	}
	for _, side := range []int64{0, -1, 18, 1 << 32, math.MaxInt64, math.MinInt64} {
		fails("with a wrong Wide", octaveRow{side, 2, 2, 0.5, 0.5, 1})
		fails("with a wrong High", octaveRow{2, side, 2, 0.5, 0.5, 1})
		fails("with wrong sides", octaveRow{side, side, 2, 0.5, 0.5, 1})
	}
	for _, octaves := range []int64{0, -1, 7, math.MaxInt64, math.MinInt64} {
		fails("with wrong octaves", octaveRow{2, 2, octaves, 0.5, 0.5, 1})
	}
	for _, x := range append(endlessNumbers(), -leastNumber, -1, afterOne, 2, mostNumber) {
		fails("with a wrong step", octaveRow{2, 2, 2, x, 0.5, 1})
		fails("with a wrong share", octaveRow{2, 2, 2, 0.5, x, 1})
	}
	fails("with no step", octaveRow{1, 1, 1, 0, 0.5, 1})
	fails("with no step", octaveRow{1, 1, 1, minusZero, 0.5, 1})
	for _, seed := range wrongSeeds() {
		fails("with a wrong seed", octaveRow{2, 2, 2, 0.5, 0.5, seed})
	}
	for _, workers := range []int64{0, -1, 9, math.MaxInt64, math.MinInt64} {
		got, ok := impl.SheetShared(2, 2, 2, 0.5, 0.5, 1, workers)
		wantNoSheet(t, "SheetShared by a wrong number of workers", got, ok)
	}
}
