package tests

import (
	"math"
	"testing"

	"loop.example/g01318/impl"
)

// number returns the 32-bit number with these bits, without the program.
func number(bits uint32) float32 {
	return math.Float32frombits(bits)
}

// told returns the bits of a number, with one value for all not-a-numbers.
func told(x float32) uint32 {
	if x != x {
		return 0x7fc00000
	}
	return math.Float32bits(x)
}

var (
	inf         = float32(math.Inf(1))
	minusInf    = float32(math.Inf(-1))
	nan         = float32(math.NaN())
	otherNaN    = number(0xffc12345)
	minusZero   = number(0x80000000)
	leastNumber = number(1)
	mostSubnorm = number(0x007fffff)
	leastNormal = number(0x00800000)
	mostNumber  = number(0x7f7fffff)
	afterOne    = number(0x3f800001)
	beforeOne   = number(0x3f7fffff)
)

// specials returns the numbers at which functions are likely to go wrong.
func specials() []float32 {
	return []float32{
		0, minusZero, leastNumber, -leastNumber, mostSubnorm, -mostSubnorm,
		leastNormal, -leastNormal, 0.25, 0.5, -0.75, beforeOne, 1, afterOne,
		-1, -1.5, 3, 200, -200, 201, -201, 1e20, -1e-20, 16777216,
		number(0x59800000), mostNumber, -mostNumber, inf, minusInf, nan, otherNaN,
	}
}

// fewSpecials are for the functions with four of them.
func fewSpecials() []float32 {
	return []float32{0, minusZero, leastNumber, -1, 1.5, 3e20, -mostNumber, inf, minusInf, nan}
}

// spread returns numbers of all sizes and of moderate sizes, always the same ones.
func spread(count int) []float32 {
	list := make([]float32, count)
	state := uint64(20)
	for i := range list {
		state = state*6364136223846793005 + 1442695040888963407
		bits := uint32(state >> 32)
		switch i % 3 {
		case 0:
			list[i] = number(bits)
		case 1:
			list[i] = float32((float64(bits) - 1<<31) / (1 << 28))
		case 2:
			list[i] = float32((float64(bits) - 1<<31) / (1 << 23))
		}
	}
	return list
}

// spreadComplex returns complex numbers whose parts are of spread.
func spreadComplex(count int) []complex64 {
	parts := spread(2 * count)
	list := make([]complex64, count)
	for i := range list {
		list[i] = complex(parts[i], parts[2*count-1-i])
	}
	return list
}

func repeated[T any](x T, count int) []T {
	list := make([]T, count)
	for i := range list {
		list[i] = x
	}
	return list
}

func wantNumber(t *testing.T, what string, got, want float32) {
	t.Helper()
	if told(got) != told(want) {
		t.Errorf("%s: got %v (%08x), want %v (%08x)", what, got, told(got), want, told(want))
	}
}

func wantComplex(t *testing.T, what string, got, want complex64) {
	t.Helper()
	if told(real(got)) != told(real(want)) || told(imag(got)) != told(imag(want)) {
		t.Errorf("%s: got %v, want %v", what, got, want)
	}
}

func wantBool(t *testing.T, what string, got, want bool) {
	t.Helper()
	if got != want {
		t.Errorf("%s: got %v, want %v", what, got, want)
	}
}

// wantSum checks a number that comes with a success.
func wantSum(t *testing.T, what string, got float32, ok bool, want float32) {
	t.Helper()
	wantBool(t, what+": success", ok, true)
	wantNumber(t, what, got, want)
}

// wantNone checks that a function failed, with a zero of any type.
func wantNone[T comparable](t *testing.T, what string, got T, ok bool) {
	t.Helper()
	var zero T
	if ok || got != zero {
		t.Errorf("%s: got %v, %v, want a failure with a zero value", what, got, ok)
	}
}

func wantNoList[T any](t *testing.T, what string, got []T, ok bool) {
	t.Helper()
	if ok || len(got) != 0 {
		t.Errorf("%s: got %v, %v, want a failure without a list", what, got, ok)
	}
}

func TestLimitsOfChapter1(t *testing.T) {
	if impl.MaxNumbers != 256 || impl.MaxValue != 1000000000000000 || impl.MaxItems != 64 || impl.CheckSize != 65003 {
		t.Error("a limit of chapter 1 is not as told")
	}
}
