package tests

import (
	"math"
	"math/big"
	"testing"

	"loop.example/g01318/impl"
)

// The bits in the tables of this file were computed outside of Go, from the document.

// wide is a 64-bit number of which each operation is rounded on its own: numbers of
// this type cannot be fused.
type wide struct{ *big.Float }

func wideOf(x float64) wide {
	return wide{new(big.Float).SetPrec(53).SetFloat64(x)}
}

func (a wide) plus(b wide) wide  { return wide{new(big.Float).SetPrec(53).Add(a.Float, b.Float)} }
func (a wide) less(b wide) wide  { return wide{new(big.Float).SetPrec(53).Sub(a.Float, b.Float)} }
func (a wide) times(b wide) wide { return wide{new(big.Float).SetPrec(53).Mul(a.Float, b.Float)} }
func (a wide) by(b wide) wide    { return wide{new(big.Float).SetPrec(53).Quo(a.Float, b.Float)} }

func (a wide) root() wide {
	x, _ := a.Float64()
	return wideOf(math.Sqrt(x))
}

func (a wide) narrow() float32 {
	x, _ := a.Float32()
	return x
}

func (a wide) atLeast(x float64) bool { return a.Cmp(big.NewFloat(x)) >= 0 }

var circle = wideOf(6.283185307179586)

func toldFraction(x float64) wide {
	whole, _ := math.Modf(x)
	f := wideOf(x).less(wideOf(whole))
	if f.Sign() < 0 {
		f = f.plus(wideOf(1))
	}
	return f
}

func toldSine(f wide) wide {
	turned := f.atLeast(0.5)
	if turned {
		f = f.less(wideOf(0.5))
	}
	if f.Cmp(big.NewFloat(0.25)) > 0 {
		f = wideOf(0.5).less(f)
	}
	z := f.times(circle)
	u := z.times(z)
	p := wideOf(1)
	for k := 8; k >= 1; k-- {
		p = wideOf(1).less(u.times(p).by(wideOf(float64(2 * k * (2*k + 1)))))
	}
	s := z.times(p)
	if turned {
		s.Neg(s.Float)
	}
	return s
}

func toldPhasor(turns float64) complex64 {
	f := toldFraction(turns)
	q := 0
	for f.atLeast(0.25) {
		f = f.less(wideOf(0.25))
		q++
	}
	c, s, zero := toldSine(wideOf(0.25).less(f)), toldSine(f), wideOf(0)
	switch q {
	case 1:
		return complex(zero.less(s).narrow(), c.narrow())
	case 2:
		return complex(zero.less(c).narrow(), zero.less(s).narrow())
	case 3:
		return complex(s.narrow(), zero.less(c).narrow())
	}
	return complex(c.narrow(), s.narrow())
}

func toldAngle(y, x float64) float32 {
	a, b := wideOf(math.Abs(y)), wideOf(math.Abs(x))
	steep := a.Cmp(b.Float) > 0
	t := a.by(b)
	if steep {
		t = b.by(a)
	}
	for range 3 {
		t = t.by(wideOf(1).plus(wideOf(1).plus(t.times(t)).root()))
	}
	u := t.times(t)
	p := wideOf(0)
	for k := 15; k >= 1; k -= 2 {
		p = wideOf(1).by(wideOf(float64(k))).less(u.times(p))
	}
	angle := wideOf(8).times(t.times(p)).by(circle)
	if steep {
		angle = wideOf(0.25).less(angle)
	}
	if x < 0 {
		angle = wideOf(0.5).less(angle)
	}
	if y < 0 {
		angle.Neg(angle.Float)
	}
	return angle.narrow()
}

func toldLog(x float64) wide {
	e := 0
	for ; x >= 1.5; e++ {
		x /= 2
	}
	for ; x < 0.75; e-- {
		x *= 2
	}
	s := wideOf(x).less(wideOf(1)).by(wideOf(x).plus(wideOf(1)))
	u := s.times(s)
	q := wideOf(0)
	for k := 25; k >= 1; k -= 2 {
		q = wideOf(1).by(wideOf(float64(k))).plus(u.times(q))
	}
	return wideOf(2).times(s.times(q)).plus(wideOf(float64(e)).times(wideOf(0.6931471805599453)))
}

func toldExp(x float64) float32 {
	t := wideOf(x / 256)
	p := wideOf(1)
	for k := 12; k >= 1; k-- {
		p = wideOf(1).plus(t.times(p).by(wideOf(float64(k))))
	}
	for range 8 {
		p = p.times(p)
	}
	return p.narrow()
}

func TestSineTurns(t *testing.T) {
	rows := [][2]uint32{
		{0x00000000, 0x00000000}, {0x80000000, 0x80000000}, {0x00000001, 0x00000006},
		{0x80000001, 0x80000000}, {0x007fffff, 0x01c90fd9}, {0x00800000, 0x01c90fdb},
		{0x1e3ce508, 0x1f945b86}, {0x9e3ce508, 0x80000000}, {0x3dcccccd, 0x3f167918},
		{0xbdcccccd, 0xbf167918}, {0x3e7fffff, 0x3f800000}, {0x3e800000, 0x3f800000},
		{0x3e800001, 0x3f800000}, {0x3eaaaaab, 0x3f5db3d7}, {0x3ec00000, 0x3f3504f3},
		{0x3effffff, 0x34490fdb}, {0x3f000000, 0x80000000}, {0x3f000001, 0xb4c90fdb},
		{0x3f200000, 0xbf3504f3}, {0x3f2aaaab, 0xbf5db3d8}, {0x3f400000, 0xbf800000},
		{0x3f600000, 0xbf3504f3}, {0x3f7fffff, 0xb4c90fdb}, {0x3f800000, 0x00000000},
		{0x3f800001, 0x35490fdb}, {0xbe000000, 0xbf3504f3}, {0xbe800000, 0xbf800000},
		{0xbf000000, 0x80000000}, {0xbf400000, 0x3f800000}, {0xbf800000, 0x00000000},
		{0xaedbe6ff, 0xb02cb5fd}, {0x3f8ccccd, 0x3f16791a}, {0x42f6e979, 0x3e8bbf57},
		{0xc2f6e979, 0xbe8bbf57}, {0x4a800001, 0x80000000}, {0x4affffff, 0x80000000},
		{0xcaffffff, 0x80000000}, {0x4b800000, 0x00000000}, {0x59800000, 0x00000000},
		{0x597fffff, 0x00000000}, {0xd9800000, 0x00000000}, {0x7149f2ca, 0x00000000},
		{0xf149f2ca, 0x00000000}, {0x7f7fffff, 0x00000000}, {0x7f800000, 0x7fc00000},
		{0xff800000, 0x7fc00000}, {0x7fc00000, 0x7fc00000},
	}
	for _, r := range rows {
		wantNumber(t, "SineTurns", impl.SineTurns(number(r[0])), number(r[1]))
	}
	for _, x := range spread(4000) {
		if x-x == 0 && x != 0 && math.Abs(float64(x)) < 0x1p52 {
			got := impl.SineTurns(x)
			wantNumber(t, "SineTurns of a spread", got, toldSine(toldFraction(float64(x))).narrow())
			_, f := math.Modf(float64(x))
			if math.Abs(float64(got)-math.Sin(2*math.Pi*f)) > 1e-7 {
				t.Errorf("SineTurns(%v): %v is no sine", x, got)
			}
		}
	}
	wantNumber(t, "another not-a-number", impl.SineTurns(otherNaN), nan)
}

func TestPhasorOf(t *testing.T) {
	rows := []struct {
		turns      uint64
		real, imag uint32
	}{
		{0x0000000000000000, 0x3f800000, 0x00000000}, {0x8000000000000000, 0x3f800000, 0x80000000},
		{0x0000000000000001, 0x3f800000, 0x00000000}, {0x8000000000000001, 0x3f800000, 0x00000000},
		{0x3bc79ca10c924223, 0x3f800000, 0x1f945b86}, {0xbbc79ca10c924223, 0x3f800000, 0x00000000},
		{0x3fb999999999999a, 0x3f4f1bbd, 0x3f167918}, {0x3fc0000000000000, 0x3f3504f3, 0x3f3504f3},
		{0x3fcfffffffffffff, 0x25490fdb, 0x3f800000}, {0x3fd0000000000000, 0x00000000, 0x3f800000},
		{0x3fd0000000000001, 0xa5c90fdb, 0x3f800000}, {0x3fd5555555555555, 0xbf000000, 0x3f5db3d7},
		{0x3fd8000000000000, 0xbf3504f3, 0x3f3504f3}, {0x3fe0000000000000, 0xbf800000, 0x00000000},
		{0x3fe4000000000000, 0xbf3504f3, 0xbf3504f3}, {0x3fe5555555555555, 0xbf000000, 0xbf5db3d7},
		{0x3fe8000000000000, 0x00000000, 0xbf800000}, {0x3fec000000000000, 0x3f3504f3, 0xbf3504f3},
		{0x3fefffffffffffff, 0x3f800000, 0xa6490fdb}, {0x3ff0000000000000, 0x3f800000, 0x00000000},
		{0xbfc0000000000000, 0x3f3504f3, 0xbf3504f3}, {0xbfd0000000000000, 0x00000000, 0xbf800000},
		{0xbfe0000000000000, 0xbf800000, 0x00000000}, {0xbfe8000000000000, 0x00000000, 0x3f800000},
		{0xbff0000000000000, 0x3f800000, 0x00000000}, {0x3ff199999999999a, 0x3f4f1bbd, 0x3f167918},
		{0x40c81cd6c8b43958, 0xbedfcda3, 0xbf663f6c}, {0xc0c81cd6c8b43958, 0xbedfcda3, 0x3f663f6c},
		{0x4320000000000001, 0xbf800000, 0x00000000}, {0xc320000000000001, 0xbf800000, 0x00000000},
		{0x432fffffffffffff, 0xbf800000, 0x00000000}, {0x4330000000000000, 0x3f800000, 0x00000000},
		{0xc330000000000000, 0x3f800000, 0x00000000}, {0x7e37e43c8800759c, 0x3f800000, 0x00000000},
		{0x7ff0000000000000, 0x7fc00000, 0x7fc00000}, {0xfff0000000000000, 0x7fc00000, 0x7fc00000},
		{0x7ff8000000000000, 0x7fc00000, 0x7fc00000},
	}
	for _, r := range rows {
		wantComplex(t, "PhasorOf", impl.PhasorOf(math.Float64frombits(r.turns)), complex(number(r.real), number(r.imag)))
	}
	for _, x := range spread(4000) {
		turns := float64(x) * 1.000000001
		if x-x == 0 && x != 0 && math.Abs(turns) < 0x1p52 {
			got := impl.PhasorOf(turns)
			wantComplex(t, "PhasorOf of a spread", got, toldPhasor(turns))
			_, f := math.Modf(turns)
			if math.Abs(float64(real(got))-math.Cos(2*math.Pi*f)) > 1e-7 || math.Abs(float64(imag(got))-math.Sin(2*math.Pi*f)) > 1e-7 {
				t.Errorf("PhasorOf(%v): %v is not on the circle there", turns, got)
			}
		}
	}
}

func TestAngles(t *testing.T) {
	rows := [][3]uint32{
		{0x00000000, 0x00000000, 0x00000000}, {0x80000000, 0x80000000, 0x00000000},
		{0x00000000, 0x3f800000, 0x00000000}, {0x80000000, 0x3f800000, 0x00000000},
		{0x00000000, 0xbf800000, 0x3f000000}, {0x80000000, 0xbf800000, 0x3f000000},
		{0x3f800000, 0x00000000, 0x3e800000}, {0x3f800000, 0x80000000, 0x3e800000},
		{0xbf800000, 0x00000000, 0xbe800000}, {0x3f800000, 0x3f800000, 0x3e000000},
		{0x3f800000, 0xbf800000, 0x3ec00000}, {0xbf800000, 0x3f800000, 0xbe000000},
		{0xbf800000, 0xbf800000, 0xbec00000}, {0x3f800000, 0x40000000, 0x3d972029},
		{0x40000000, 0x3f800000, 0x3e346fec}, {0x40000000, 0xbf800000, 0x3ea5c80a},
		{0xc0000000, 0x3f800000, 0xbe346fec}, {0xc0000000, 0xbf800000, 0xbea5c80a},
		{0xbf800000, 0xc0000000, 0xbeda37f6}, {0x40400000, 0x40800000, 0x3dd1bfae},
		{0x3f800000, 0x40400000, 0x3d51bfae}, {0x1e3ce508, 0x3f800000, 0x1cf08216},
		{0x9e3ce508, 0x3f800000, 0x9cf08216}, {0x1e3ce508, 0xbf800000, 0x3f000000},
		{0x00000001, 0x7f7fffff, 0x00000000}, {0x80000001, 0x7f7fffff, 0x80000000},
		{0x7f7fffff, 0x00000001, 0x3e800000}, {0x00000001, 0x00000001, 0x3e000000},
		{0x7f7fffff, 0x7f7fffff, 0x3e000000}, {0x7f800000, 0x3f800000, 0x7fc00000},
		{0x3f800000, 0xff800000, 0x7fc00000}, {0x7fc00000, 0x3f800000, 0x7fc00000},
		{0x3f800000, 0x7fc00000, 0x7fc00000}, {0x7f800000, 0x7f800000, 0x7fc00000},
		{0x00000000, 0x7fc00000, 0x7fc00000}, {0x3f7fffff, 0x3f800000, 0x3dffffff},
		{0x3f800001, 0x3f800000, 0x3e000001},
	}
	for _, r := range rows {
		y, x := number(r[0]), number(r[1])
		wantNumber(t, "AngleTurns", impl.AngleTurns(y, x), number(r[2]))
		wantNumber(t, "AngleOf", impl.AngleOf(complex(x, y)), number(r[2]))
	}
	for _, z := range spreadComplex(4000) {
		x, y := real(z), imag(z)
		if z-z != 0 || z == 0 {
			continue
		}
		got := impl.AngleTurns(y, x)
		wantNumber(t, "AngleTurns of a spread", got, toldAngle(float64(y), float64(x)))
		wantNumber(t, "AngleOf of a spread", impl.AngleOf(z), got)
		if math.Abs(float64(got)-math.Atan2(float64(y), float64(x))/(2*math.Pi)) > 1e-7 {
			t.Errorf("AngleTurns(%v, %v): %v is not the angle", y, x, got)
		}
	}
	wantNumber(t, "the angle of the phasor of the example", impl.AngleOf(impl.PhasorOf(0.25)), 0.25)
	wantComplex(t, "the phasor of the example", impl.PhasorOf(0.25), complex(0, 1))
}

func TestLogNumber(t *testing.T) {
	rows := [][2]uint32{
		{0x00000001, 0xc2ce8ed0}, {0x00000002, 0xc2cd2bec}, {0x007fffff, 0xc2aeac50},
		{0x00800000, 0xc2aeac50}, {0x1e3ce508, 0xc23834f1}, {0x3dcccccd, 0xc0135d8e},
		{0x3f000000, 0xbf317218}, {0x3f3fffff, 0xbe934b13}, {0x3f400000, 0xbe934b11},
		{0x3f400001, 0xbe934b0e}, {0x3f7fffff, 0xb3800000}, {0x3f800000, 0x00000000},
		{0x3f800001, 0x33ffffff}, {0x3fbfffff, 0x3ecf991d}, {0x3fc00000, 0x3ecf991f},
		{0x3fc00001, 0x3ecf9922}, {0x40000000, 0x3f317218}, {0x402df854, 0x3f7fffff},
		{0x40400000, 0x3f8c9f54}, {0x41200000, 0x40135d8e}, {0x42c80000, 0x40935d8e},
		{0x501502f9, 0x41b834f1}, {0x7f7fffff, 0x42b17218}, {0x00000000, 0xff800000},
		{0x80000000, 0xff800000}, {0xbf800000, 0x7fc00000}, {0x80000001, 0x7fc00000},
		{0xff61b1e6, 0x7fc00000}, {0x7f800000, 0x7f800000}, {0xff800000, 0x7fc00000},
		{0x7fc00000, 0x7fc00000},
	}
	for _, r := range rows {
		wantNumber(t, "LogNumber", impl.LogNumber(number(r[0])), number(r[1]))
	}
	for _, x := range spread(4000) {
		if x-x == 0 && x > 0 {
			got := impl.LogNumber(x)
			wantNumber(t, "LogNumber of a spread", got, toldLog(float64(x)).narrow())
			if math.Abs(float64(got)-math.Log(float64(x))) > 1e-5 {
				t.Errorf("LogNumber(%v): %v is no logarithm", x, got)
			}
		}
	}
}

func TestExpNumber(t *testing.T) {
	rows := [][2]uint32{
		{0x00000000, 0x3f800000}, {0x80000000, 0x3f800000}, {0x00000001, 0x3f800000},
		{0x80000001, 0x3f800000}, {0x2edbe6ff, 0x3f800000}, {0x3f800000, 0x402df854},
		{0xbf800000, 0x3ebc5ab2}, {0x3f000000, 0x3fd3094c}, {0x40000000, 0x40ec7326},
		{0x41200000, 0x46ac14ee}, {0xc1200000, 0x383e6bce}, {0x424a0000, 0x63e7b299},
		{0x42b17217, 0x7f7fff84}, {0x42b17218, 0x7f800000}, {0x42b20000, 0x7f800000},
		{0x42c80000, 0x7f800000}, {0x4347ffff, 0x7f800000}, {0x43480000, 0x7f800000},
		{0x43480001, 0x7f800000}, {0xc2aeac4f, 0x00800026}, {0xc2aecccd, 0x00782140},
		{0xc2c80000, 0x0000001b}, {0xc2cff0a4, 0x00000001}, {0xc2d00000, 0x00000000},
		{0xc3160000, 0x00000000}, {0xc347ffff, 0x00000000}, {0xc3480000, 0x00000000},
		{0xc3480001, 0x00000000}, {0x7f61b1e6, 0x7f800000}, {0xff61b1e6, 0x00000000},
		{0x7f800000, 0x7f800000}, {0xff800000, 0x00000000}, {0x7fc00000, 0x7fc00000},
	}
	for _, r := range rows {
		wantNumber(t, "ExpNumber", impl.ExpNumber(number(r[0])), number(r[1]))
	}
	for _, x := range spread(4000) {
		if x >= -200 && x <= 200 && x != 0 {
			got := impl.ExpNumber(x)
			wantNumber(t, "ExpNumber of a spread", got, toldExp(float64(x)))
			if want := math.Exp(float64(x)); x > -87 && x < 88 && math.Abs(float64(got)/want-1) > 1e-7 {
				t.Errorf("ExpNumber(%v): %v is no power", x, got)
			}
		}
	}
}

func TestTenthsOf(t *testing.T) {
	rows := []struct {
		power  uint32
		tenths int64
	}{
		{0x3f800000, 0}, {0x40000000, 30}, {0x3f000000, -30}, {0x41200000, 100},
		{0x3dcccccd, -100}, {0x42c80000, 200}, {0x447a0000, 300}, {0x00000001, -4485},
		{0x007fffff, -3793}, {0x7f7fffff, 3853}, {0x3f7fffff, 0}, {0x3f800001, 0},
		{0x3f400000, -12}, {0x3f3fffff, -12}, {0x3fc00000, 18}, {0x3fbfffff, 18},
		{0x3f817b6f, 0}, {0x3f817b70, 1}, {0x3f7d11cf, -1}, {0x3f7d11d0, -1},
		{0x2edbe6ff, -1000}, {0x47f12000, 509}, {0x40400000, 48},
	}
	for _, r := range rows {
		got, ok := impl.TenthsOf(number(r.power))
		if !ok || got != r.tenths {
			t.Errorf("TenthsOf(%v): got %d, %v, want %d", number(r.power), got, ok, r.tenths)
		}
	}
	for _, x := range spread(4000) {
		if x-x == 0 && x > 0 {
			got, ok := impl.TenthsOf(x)
			tenths, _ := toldLog(float64(x)).times(wideOf(43.42944819032518)).plus(wideOf(0.5)).Float64()
			if !ok || got != int64(math.Floor(tenths)) {
				t.Errorf("TenthsOf(%v): got %d, %v, want %v, rounded down", x, got, ok, tenths)
			}
		}
	}
	for _, x := range []float32{0, minusZero, -1, -leastNumber, inf, minusInf, nan, otherNaN} {
		got, ok := impl.TenthsOf(x)
		wantNone(t, "TenthsOf without a power", got, ok)
	}
}

// TestResultsNextToTies has arguments for which the 64-bit result lies nearly halfway between two 32-bit numbers, so that
// a change of its last bits is seen.
func TestResultsNextToTies(t *testing.T) {
	sines := [][2]uint32{
		{0x3d7d7f58, 0x3ec21dd8}, {0x3ee05015, 0x3ec21dd8}, {0x3d00c8a4, 0x3e48fad5}, {0x3ca73e15, 0x3e02fdf7},
		{0x3e0fb527, 0x3f459959}, {0x3d17dfea, 0x3e6c6975}, {0x3d46972b, 0x3e999244}, {0x3dac0344, 0x3f00ea1c},
		{0x3e434f37, 0x3f6e7421}, {0x3e7341b8, 0x3f7f37c3}, {0x3e85af77, 0x3f7f608e}, {0x3f3e889c, 0xbf7fd590},
	}
	for _, r := range sines {
		wantNumber(t, "SineTurns", impl.SineTurns(number(r[0])), number(r[1]))
		if x := number(r[0]); x < 0.25 {
			wantNumber(t, "PhasorOf", imag(impl.PhasorOf(float64(x))), number(r[1]))
		}
	}
	powers := [][2]uint32{
		{0x426c57df, 0x6a177625}, {0x4283070f, 0x6eb71737}, {0x4286088f, 0x6fcdbda3}, {0x4294d3fa, 0x7523e82c},
		{0x42a63857, 0x7b6f42ca}, {0x42acc9e2, 0x7dc78db1}, {0x3f9c7c14, 0x405954a2}, {0x3f5d0b5f, 0x4017c404},
		{0xc16912cd, 0x34fd331a}, {0xbee0e6cd, 0x3f24fec8}, {0xc069222d, 0x3cd67a1b}, {0xc2ac0052, 0x01736c63},
	}
	for _, r := range powers {
		wantNumber(t, "ExpNumber", impl.ExpNumber(number(r[0])), number(r[1]))
	}
	logarithms := [][2]uint32{
		{0x3fd364d7, 0x3f006ef3}, {0x3fc55379, 0x3edd9b88}, {0x3fdc4750, 0x3f0af90c}, {0x3f7ffffe, 0xb4000001},
		{0x3fa66c0b, 0x3e8665f9}, {0x3f554d38, 0xbe3ad974}, {0x3f2f24ef, 0xbec256a9}, {0x3f3a7b7f, 0xbea238ed},
		{0x5d800341, 0x42265b10}, {0x5d8b2d5b, 0x4226b0b1}, {0x5da07e05, 0x4227429b}, {0x5dfb788b, 0x42290e77},
	}
	for _, r := range logarithms {
		wantNumber(t, "LogNumber", impl.LogNumber(number(r[0])), number(r[1]))
	}
	flat := [][2]uint32{
		{0x3eb11e2c, 0x3d591cf5}, {0x3b712c86, 0x3a198910}, {0x3f693531, 0x3df0d332}, {0x3f0bb00e, 0x3da2cfe6},
		{0x3d96840b, 0x3c3f4c79}, {0x3c04c410, 0x3aa909ff}, {0x3e56ea4b, 0x3d06dca2}, {0x3d91ae07, 0x3c392c62},
	}
	for _, r := range flat {
		wantNumber(t, "AngleTurns", impl.AngleTurns(number(r[0]), 1), number(r[1]))
	}
	steep := [][2]uint32{
		{0x3f5beb2c, 0x3e0c550b}, {0x3d397a32, 0x3e78a009}, {0x3f13c6f0, 0x3e2aadac}, {0x3beb0935, 0x3e7ed4bf},
		{0x3c813e90, 0x3e7d6dd1}, {0x3ef0c9ba, 0x3e385b52},
	}
	for _, r := range steep {
		wantNumber(t, "AngleTurns", impl.AngleTurns(1, number(r[0])), number(r[1]))
	}
}

// TestStepsOfTenths has the powers at which TenthsOf becomes greater, and those just before.
func TestStepsOfTenths(t *testing.T) {
	rows := []struct {
		power  uint32
		tenths int64
	}{
		{0x00000007, -4401}, {0x00000008, -4395},
		{0x0da066e3, -3001}, {0x0da066e4, -3000},
		{0x2afe5f4d, -1235}, {0x2afe5f4e, -1234},
		{0x3a7d3e93, -302}, {0x3a7d3e94, -301},
		{0x3dcf2be5, -100}, {0x3dcf2be6, -99},
		{0x3f01ca24, -30}, {0x3f01ca25, -29},
		{0x3f5765ac, -8}, {0x3f5765ad, -7},
		{0x3f817b6f, 0}, {0x3f817b70, 1},
		{0x3f8df970, 4}, {0x3f8df971, 5},
		{0x3fbf84a6, 17}, {0x3fbf84a7, 18},
		{0x3ffc7859, 29}, {0x3ffc785a, 30},
		{0x40ba45e5, 76}, {0x40ba45e6, 77},
		{0x41fa161a, 149}, {0x41fa161b, 150},
		{0x50134e4e, 999}, {0x50134e4f, 1000},
		{0x6c9ab507, 2717}, {0x6c9ab508, 2718},
		{0x7f7bffff, 3852}, {0x7f7c0000, 3853},
	}
	for _, r := range rows {
		got, ok := impl.TenthsOf(number(r.power))
		if !ok || got != r.tenths {
			t.Errorf("TenthsOf(%v): got %d, %v, want %d", number(r.power), got, ok, r.tenths)
		}
	}
}
