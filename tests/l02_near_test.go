package tests

import (
	"testing"

	"loop.example/g01318/impl"
)

// reference returns the orbit of 0 up to the number that is out, or up to the most numbers.
func reference(c complex64) []complex64 {
	n, _ := impl.EscapeOf(square(c), 0, 127)
	orbit, _ := impl.OrbitOf(square(c), 0, n+1)
	return orbit
}

func TestNearEscape(t *testing.T) {
	half := complex64(complex(0.5, 0.5))
	rows := []struct {
		what  string
		orbit []complex64
		by    complex64
		flush bool
		want  int64
	}{
		{"an example", []complex64{0, 1, 2, 5}, 0, true, 3},
		{"one that stays", []complex64{0, -1, 0}, 0, false, 3},
		{"one number", []complex64{0}, complex(mostNumber, mostNumber), false, 1},
		{"one number with signs", []complex64{complex(minusZero, minusZero)}, 0, true, 1},
		{"one number that is out", []complex64{3}, 0, false, 0},
		{"out at once", []complex64{complex(0, -5), 0, 0}, 0, false, 0},
		{"out after the first", []complex64{0, 3, 0}, 0, false, 1},
		{"touching 4", []complex64{0, -2, 2, 2}, 0, false, 4},
		{"touching 4 with a difference", []complex64{0, -1, 0}, -1, false, 3},
		{"beyond 4 with a difference", []complex64{0, -1, 0}, complex(number(0xbf800002), 0), false, 1},
		{"back with a difference", []complex64{0, 3, 0}, -2, false, 2},
		{"a reference that goes out late", reference(complex(-0.6, 0.5)), complex(0.05, -0.03), false, 13},
		{"out after the reference", reference(complex(-0.75, 0.1)), complex(0.2, 0.2), true, 34},
		{"a difference from the edge", reference(0.25), 0.01, false, 30},
		{"both stay", reference(-half), complex(0.001, 0.001), false, 128},
		{"a difference that leads out", reference(-1.9), complex(-0.05, 0.01), true, 7},
		{"the sum is told from the left", reference(at(0xbff7b0d800000000)), at(0xbbe411d4b9c38c09), false, 70},
		{"the last number is added last", reference(at(0xbff9708b00000000)), at(0x3bed4b54b9b9adee), false, 73},
		{"products that are not finite", []complex64{0, 1e38, 1}, 0, false, 1},
		{"an infinite difference", []complex64{0, -3e38, 0, 0}, 3e38, false, 2},
		{"an infinite difference, flushed", []complex64{0, -3e38, 0, 0}, 3e38, true, 2},
	}
	for _, r := range rows {
		got, ok := impl.NearEscape(r.orbit, r.by, r.flush)
		wantInteger(t, "NearEscape: "+r.what, got, ok, r.want)
	}
}

func TestFlushedDifferences(t *testing.T) {
	orbit := reference(-2)
	if len(orbit) != 128 {
		t.Fatalf("the reference has %d numbers", len(orbit))
	}
	rows := []struct {
		by            complex64
		kept, flushed int64
	}{
		{-complex(leastNumber, 0), 65, 128},
		{complex(leastNumber, 0), 128, 128},
		{complex(0, leastNumber), 71, 128},
		{complex(-leastNormal, 0), 53, 53},
		{complex(-mostSubnorm, 0), 53, 128},
		{complex(-mostSubnorm, -leastNormal), 53, 59},
	}
	for _, r := range rows {
		kept, ok := impl.NearEscape(orbit, r.by, false)
		wantInteger(t, "NearEscape of subnormal numbers", kept, ok, r.kept)
		flushed, ok := impl.NearEscape(orbit, r.by, true)
		wantInteger(t, "NearEscape of flushed numbers", flushed, ok, r.flushed)
		for count := range len(orbit) {
			if count > 0 {
				got, ok := impl.NearEscape(orbit[:count], r.by, false)
				wantInteger(t, "NearEscape of a part", got, ok, min(int64(count), r.kept))
			}
		}
	}
}

// TestNearOrbitsAreOrbits compares with orbits whose C is the sum.
func TestNearOrbitsAreOrbits(t *testing.T) {
	cs, steps := spreadOver(1.2, 200), spreadOver(0.125, 200)
	for i, c := range cs {
		by := steps[199-i]
		want, _ := impl.EscapeOf(square(c+by), 0, 8)
		orbit, ok := impl.OrbitOf(square(c), 0, 8)
		if !ok {
			continue
		}
		got, ok := impl.NearEscape(orbit, by, i%2 == 0)
		wantInteger(t, "NearEscape", got, ok, want)
	}
}

func TestNearEscapeFails(t *testing.T) {
	fails := func(what string, orbit []complex64, by complex64) {
		for _, flush := range []bool{false, true} {
			got, ok := impl.NearEscape(orbit, by, flush)
			wantNone(t, what, got, ok)
		}
	}
	fails("NearEscape without a reference", nil, 0)
	fails("NearEscape with an empty reference", []complex64{}, 0)
	fails("NearEscape with too many numbers", make([]complex64, 129), 0)
	fails("NearEscape with far too many numbers", make([]complex64, 5000), 0)
	for _, x := range []float32{inf, minusInf, nan, otherNaN} {
		for _, z := range []complex64{complex(x, 0), complex(0, x)} {
			fails("NearEscape by a number that is not finite", []complex64{0, 1}, z)
			fails("NearEscape of a number that is not finite", []complex64{z}, 0)
			fails("NearEscape of a last number that is not finite", []complex64{0, 5, z}, 0)
		}
	}
	got, ok := impl.NearEscape(make([]complex64, 128), 0, true)
	wantInteger(t, "NearEscape of the most numbers", got, ok, 128)
}
