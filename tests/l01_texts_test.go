package tests

import (
	"math"
	"strings"
	"testing"

	"loop.example/g01318/impl"
)

func wantText(t *testing.T, what, got string, ok bool, want string) {
	t.Helper()
	if !ok || got != want {
		t.Errorf("%s: got %q, %v, want %q", what, got, ok, want)
	}
}

func TestNumbersText(t *testing.T) {
	rows := []struct {
		list []float32
		text string
	}{
		{nil, "none"},
		{[]float32{}, "none"},
		{[]float32{1}, "3f800000"},
		{[]float32{1, -2}, "3f800000,c0000000"},
		{[]float32{0, minusZero, leastNumber, -mostSubnorm, leastNormal, mostNumber}, "00000000,80000000,00000001,807fffff,00800000,7f7fffff"},
		{[]float32{inf, minusInf, nan}, "7f800000,ff800000,7fc00000"},
		{repeated[float32](0.1, 256), strings.Repeat("3dcccccd,", 255) + "3dcccccd"},
	}
	for _, r := range rows {
		text, ok := impl.NumbersText(r.list)
		wantText(t, "NumbersText", text, ok, r.text)
		list, ok := impl.ReadNumbers(r.text)
		if !ok || len(list) != len(r.list) {
			t.Fatalf("ReadNumbers(%q): got %v, %v", r.text, list, ok)
		}
		for i, x := range list {
			wantNumber(t, "ReadNumbers", x, r.list[i])
		}
	}
	text, ok := impl.NumbersText([]float32{otherNaN, number(0x7f800001)})
	wantText(t, "NumbersText of not-a-numbers", text, ok, "7fc00000,7fc00000")
	text, ok = impl.NumbersText(repeated[float32](1, 257))
	wantNone(t, "NumbersText of too many", text, ok)
}

func TestReadNumbersFails(t *testing.T) {
	for _, s := range []string{
		"", ",", " ", "none,", ",none", "None", "nonee", "none none", "none,3f800000", "3f800000,none",
		"3f80000", "3f8000000", "3F800000", "3f80000g", "3f80000G", "3f80000/", "3f80000:", "3f80000`",
		"3f800000,", ",3f800000", "3f800000,,3f800000", "3f800000, 3f800000", " 3f800000", "3f800000\n",
		"3f800000;3f800000", "3f800000 3f800000", "3f8000003f800000",
		"7fc00001", "7f800001", "ffc00000", "ffffffff", "ff800001", "7fffffff", "3f800000,7fc00001",
		"+f800000", "-f800000", "0x3f8000", "3f_80000", "3f8000\xff\xff", "3f80000\x00", "3f80\u0661\u0661", "\uff13f80000",
		strings.Repeat("3f800000,", 256) + "3f800000", strings.Repeat("3f800000,", 256), strings.Repeat(",", 100000),
	} {
		list, ok := impl.ReadNumbers(s)
		wantNoList(t, "ReadNumbers of "+s, list, ok)
	}
}

func TestComplexText(t *testing.T) {
	rows := []struct {
		list []complex64
		text string
	}{
		{nil, "none"},
		{[]complex64{1}, "3f80000000000000"},
		{[]complex64{1, complex(0, -2)}, "3f80000000000000,00000000c0000000"},
		{[]complex64{complex(minusZero, 0), complex(leastNumber, -leastNumber)}, "8000000000000000,0000000180000001"},
		{[]complex64{complex(nan, minusInf), complex(inf, nan)}, "7fc00000ff800000,7f8000007fc00000"},
		{repeated[complex64](complex(1, 2), 256), strings.Repeat("3f80000040000000,", 255) + "3f80000040000000"},
	}
	for _, r := range rows {
		text, ok := impl.ComplexText(r.list)
		wantText(t, "ComplexText", text, ok, r.text)
		list, ok := impl.ReadComplex(r.text)
		if !ok || len(list) != len(r.list) {
			t.Fatalf("ReadComplex(%q): got %v, %v", r.text, list, ok)
		}
		for i, x := range list {
			wantComplex(t, "ReadComplex", x, r.list[i])
		}
	}
	text, ok := impl.ComplexText([]complex64{complex(otherNaN, number(0xff800001))})
	wantText(t, "ComplexText of not-a-numbers", text, ok, "7fc000007fc00000")
	text, ok = impl.ComplexText(repeated[complex64](1, 257))
	wantNone(t, "ComplexText of too many", text, ok)
}

func TestReadComplexFails(t *testing.T) {
	for _, s := range []string{
		"", ",", "none,", "NONE", "3f800000", "3f8000000000000", "3f800000000000000", "3f800000,00000000",
		"3f80000000000000,", ",3f80000000000000", "3f80000000000000,none", "3F80000000000000", "3f8000000000000G",
		"3f80000000000000,3f800000", "3f800000 0000000", "3f80000000000000 3f80000000000000",
		"7fc0000100000000", "000000007fc00001", "ffc0000000000000", "00000000ff800001",
		"3f8000000000000\xc3", "3f80000\u00e90000000", "3f80000000000000\x00",
		strings.Repeat("3f80000000000000,", 256) + "3f80000000000000", strings.Repeat(",", 100000),
	} {
		list, ok := impl.ReadComplex(s)
		wantNoList(t, "ReadComplex of "+s, list, ok)
	}
}

// TestTextsAreReadBack holds the second promise: numbers are told by their bits.
func TestTextsAreReadBack(t *testing.T) {
	numbers := append(specials(), spread(225)...)
	text, ok := impl.NumbersText(numbers)
	list, read := impl.ReadNumbers(text)
	if !ok || !read || len(list) != 256 {
		t.Fatalf("256 numbers were not read back: %v, %v, %d", ok, read, len(list))
	}
	for i, x := range list {
		wantNumber(t, "a number that is read back", x, numbers[i])
		wantBool(t, "SameNumber", impl.SameNumber(x, numbers[i]), true)
		back, ok := impl.FromBits(impl.BitsOf(numbers[i]))
		wantSum(t, "FromBits of BitsOf", back, ok, numbers[i])
	}
	pairs := spreadComplex(256)
	text, ok = impl.ComplexText(pairs)
	read2, read := impl.ReadComplex(text)
	if !ok || !read || len(read2) != 256 {
		t.Fatalf("256 complex numbers were not read back: %v, %v, %d", ok, read, len(read2))
	}
	for i, x := range read2 {
		wantComplex(t, "a complex number that is read back", x, pairs[i])
	}
}

func TestIsName(t *testing.T) {
	for _, s := range []string{"a", "z", "m", "ring", "abcdefgh", "zzzzzzzz"} {
		wantBool(t, "IsName of "+s, impl.IsName(s), true)
	}
	for _, s := range []string{"", "abcdefghi", "A", "aB", "a1", "a b", " a", "a ", "a-b", "`", "{", "a`", "a{", "\u00e9", "a\xff", "\x00", "\xe1", "a\n", strings.Repeat("a", 100000)} {
		wantBool(t, "IsName of "+s, impl.IsName(s), false)
	}
}

func TestDecimal(t *testing.T) {
	rows := []struct {
		n    int64
		text string
	}{
		{0, "0"}, {-4, "-4"}, {7, "7"}, {10, "10"}, {-100, "-100"}, {65003, "65003"},
		{1000000000000000, "1000000000000000"}, {-1000000000000000, "-1000000000000000"},
		{999999999999999, "999999999999999"},
	}
	for _, r := range rows {
		wantText(t, "Decimal", impl.Decimal(r.n), true, r.text)
		n, ok := impl.ReadDecimal(r.text)
		if !ok || n != r.n {
			t.Errorf("ReadDecimal(%q): got %d, %v", r.text, n, ok)
		}
	}
	wantText(t, "Decimal of the least integer", impl.Decimal(math.MinInt64), true, "-9223372036854775808")
	wantText(t, "Decimal of the greatest integer", impl.Decimal(math.MaxInt64), true, "9223372036854775807")
	for _, s := range []string{
		"", "-", "+", "-0", "+0", "+1", "00", "01", "-01", "1 ", " 1", "1.0", "1e3", "0x1", "1_000", "a", "1a", "--1", "1-",
		"1000000000000001", "-1000000000000001", "9223372036854775807", "-9223372036854775808",
		"9223372036854775808", "18446744073709551617", "1,2", "1\n", "\u0661", "\uff11", "1\xff", "none", strings.Repeat("1", 100000),
	} {
		n, ok := impl.ReadDecimal(s)
		wantNone(t, "ReadDecimal of "+s, n, ok)
	}
}

func TestListText(t *testing.T) {
	rows := []struct {
		list []int64
		text string
	}{
		{nil, "none"}, {[]int64{}, "none"}, {[]int64{0}, "0"}, {[]int64{3, -1, 2, 2}, "3,-1,2,2"},
		{[]int64{1000000000000000, -1000000000000000}, "1000000000000000,-1000000000000000"},
		{repeated[int64](-5, 64), strings.Repeat("-5,", 63) + "-5"},
	}
	for _, r := range rows {
		text, ok := impl.ListText(r.list)
		wantText(t, "ListText", text, ok, r.text)
		list, ok := impl.ReadList(r.text)
		if !ok || len(list) != len(r.list) {
			t.Fatalf("ReadList(%q): got %v, %v", r.text, list, ok)
		}
		for i, n := range list {
			if n != r.list[i] {
				t.Errorf("ReadList(%q): got %v", r.text, list)
			}
		}
	}
	for _, list := range [][]int64{repeated[int64](1, 65), {1000000000000001}, {1, -1000000000000001}, {math.MaxInt64}, {math.MinInt64, 0}} {
		text, ok := impl.ListText(list)
		wantNone(t, "ListText of numbers that are not allowed", text, ok)
	}
}

func TestReadListFails(t *testing.T) {
	for _, s := range []string{
		"", ",", "1,", ",1", "1,,2", "1, 2", " 1", "1;2", "none,1", "1,none", "NONE", "none ", "-0", "1,01", "+1", "1,x",
		"1000000000000001", "1,-1000000000000001", strings.Repeat("1,", 64) + "1", strings.Repeat("1,", 64), strings.Repeat(",", 100000),
	} {
		list, ok := impl.ReadList(s)
		wantNoList(t, "ReadList of "+s, list, ok)
	}
}

func TestCheckOf(t *testing.T) {
	rows := []struct {
		start int64
		text  string
		want  int64
	}{
		{0, "", 0}, {65002, "", 65002}, {5, "", 5}, {0, "a", 246}, {1, "a", 1103},
		{0, "\x00", 149}, {0, "\xff", 404}, {0, "ab", (857*246 + 98 + 149) % 65003},
		{65002, "\xff", (857*65002 + 255 + 149) % 65003}, {0, "\u00e9", ((149+0xc3)*857 + 0xa9 + 149) % 65003},
		{0, "\xff\xfe", (857*404 + 254 + 149) % 65003},
	}
	for _, r := range rows {
		got, ok := impl.CheckOf(r.start, r.text)
		if !ok || got != r.want {
			t.Errorf("CheckOf(%d, %q): got %d, %v, want %d", r.start, r.text, got, ok, r.want)
		}
	}
	for _, start := range []int64{-1, 65003, math.MaxInt64, math.MinInt64} {
		got, ok := impl.CheckOf(start, "a")
		wantNone(t, "CheckOf with the start "+impl.Decimal(start), got, ok)
	}
	long := strings.Repeat("coast\xfe", 3000)
	whole, _ := impl.CheckOf(7, long)
	first, _ := impl.CheckOf(7, long[:1234])
	rest, _ := impl.CheckOf(first, long[1234:])
	if whole != rest {
		t.Errorf("CheckOf: got %d at once and %d in two parts", whole, rest)
	}
}
