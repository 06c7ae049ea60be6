package tests

import (
	"encoding/hex"
	"slices"
	"strings"
	"testing"

	"loop.example/g01318/impl"
)

// packRow is a list of cells with its runs.
type packRow struct {
	cells []bool
	want  string
}

func packRows() []packRow {
	return []packRow{
		{nil, ""},
		{[]bool{}, ""},
		{maskOf("."), "\x01"},
		{maskOf("#"), "\x00\x01"},
		{maskOf("##."), "\x00\x02\x01"},
		{maskOf(".##"), "\x01\x02"},
		{maskOf("...##.#"), "\x03\x02\x01\x01"},
		{maskOf("#.#.#"), "\x00\x01\x01\x01\x01\x01"},
		{repeated(false, 254), "\xfe"},
		{repeated(true, 254), "\x00\xfe"},
		// From 255 cells on, a run has two bytes.
		{repeated(false, 255), "\xff\x00"},
		{repeated(true, 255), "\x00\xff\x00"},
		{repeated(false, 256), "\xff\x01"},
		{repeated(true, 256), "\x00\xff\x01"},
		{append(maskOf("."), repeated(true, 255)...), "\x01\xff\x00"},
		{append(repeated(true, 255), false), "\x00\xff\x00\x01"},
		{append(repeated(false, 255), true), "\xff\x00\x01"},
		{append(append(maskOf("."), repeated(true, 254)...), false), "\x01\xfe\x01"},
		{checkered().Cells[:16], "\x00" + strings.Repeat("\x01", 16)},
		{maskOf(strings.Repeat("#.", 128)), "\x00" + strings.Repeat("\x01", 256)},
	}
}

func TestPackCells(t *testing.T) {
	for _, r := range packRows() {
		got, ok := impl.PackCells(r.cells)
		wantText(t, "PackCells", got, ok, r.want)
		back, ok := impl.UnpackCells(r.want)
		wantMask(t, "UnpackCells", back, ok, r.cells)
	}
	for _, count := range []int{257, 300, 511, 5000} {
		for _, full := range []bool{false, true} {
			got, ok := impl.PackCells(repeated(full, count))
			wantNone(t, "PackCells of too many cells", got, ok)
		}
	}
	for _, f := range manyFields() {
		packed, ok := impl.PackCells(f.Cells)
		wantBool(t, "whether PackCells succeeds", ok, true)
		back, ok := impl.UnpackCells(packed)
		wantMask(t, "UnpackCells of PackCells", back, ok, f.Cells)
	}
}

func TestUnpackCellsFails(t *testing.T) {
	for _, s := range []string{
		// Only the first run can have no cells, and others must follow it.
		"\x00", "\x00\x00", "\x01\x00", "\x01\x00\x01", "\x00\x01\x00", "\x00\x00\x01", "\x02\x01\x00\x01", "\x00\x01\x01\x00",
		// Runs that are cut.
		"\xff", "\x00\xff", "\x01\xff", "\x01\x02\xff", "\xff\x00\xff",
		// Too many cells.
		"\xff\x02", "\xff\xff", "\x00\xff\x02", "\xff\x01\x01", "\xff\x00\x02", "\xfe\x03", "\x01\xff\x01", "\x80\x81", "\x00\xfe\x02\x01",
		strings.Repeat("\x01", 257), strings.Repeat("\x10", 17), strings.Repeat("\xff", 70000), strings.Repeat("\x00", 70000), strings.Repeat("\xff\x00", 300),
	} {
		got, ok := impl.UnpackCells(s)
		wantNoList(t, "UnpackCells of no runs", got, ok)
	}
	// Of all texts of two bytes, those are runs that PackCells makes.
	for a := range 256 {
		for b := range 256 {
			s := string([]byte{byte(a), byte(b)})
			cells, ok := impl.UnpackCells(s)
			isRun := a < 255 && b > 0 && b < 255 && a+b <= 256 || a == 255 && b <= 1
			wantBool(t, "whether UnpackCells of two bytes succeeds", ok, isRun)
			if again, _ := impl.PackCells(cells); ok && again != s {
				t.Errorf("UnpackCells of %v has other runs", []byte(s))
			}
		}
	}
}

func shape(name, picture string) impl.Shape {
	return impl.Shape{Name: name, Field: field(picture)}
}

// wrongShapes have a name or a field that is not valid.
func wrongShapes() []impl.Shape {
	list := []impl.Shape{{}}
	for _, name := range []string{"", "abcdefghi", "A", "a1", "a ", " a", "a\x00", "\u00e9", "a\xff", "ring!", "{", "`", strings.Repeat("a", 256), strings.Repeat("a", 70000)} {
		list = append(list, shape(name, "#"))
	}
	for _, f := range wrongFields() {
		list = append(list, impl.Shape{Name: "a", Field: f})
	}
	return list
}

// storedRow is a shape with its bytes.
type storedRow struct {
	s     impl.Shape
	bytes string
}

func storedRows() []storedRow {
	return []storedRow{
		{shape("a", "### #.# ###"), "53485031016103030400000401049b09"},
		{shape("b", "."), "53485031016201010100017666"},
		{shape("c", "#"), "534850310163010102000001f50d"},
		{shape("abcdefgh", "#.#.#.#.#.#.#.#."), "534850310861626364656667681001110000010101010101010101010101010101013ead"},
		{shape("z", "#...... ......#"), "53485031017a0702040000010c01e0c0"},
		{shape("ring", "..#.. ..#.. #.#.# #.#.# ###.#"), "534850310472696e670505100002010401020101010102010101040101172f"},
	}
}

// greatShapes are of the greatest size, with runs that are long, and such that are short.
func greatShapes() []impl.Shape {
	return []impl.Shape{
		{Name: "full", Field: allAlike(16, 16, true)}, {Name: "none", Field: allAlike(16, 16, false)}, {Name: "checker", Field: checkered()},
		{Name: "dots", Field: impl.Field{Wide: 16, High: 16, Cells: maskOf(strings.Repeat("#.", 128))}}, {Name: "speckled", Field: speckled(16, 16, 60)},
		{Name: "high", Field: speckled(1, 16, 60)}, {Name: "wide", Field: speckled(16, 1, 60)},
	}
}

func TestValidShape(t *testing.T) {
	for _, r := range storedRows() {
		wantBool(t, "ValidShape", impl.ValidShape(r.s), true)
	}
	for _, s := range greatShapes() {
		wantBool(t, "ValidShape", impl.ValidShape(s), true)
	}
	for _, s := range wrongShapes() {
		wantBool(t, "ValidShape", impl.ValidShape(s), false)
	}
}

func TestSameShapes(t *testing.T) {
	list := append(wrongShapes(), greatShapes()...)
	list = append(list, shape("a", "..#"), shape("b", "..#"), shape("a", ".##"), shape("a", ". . #"))
	for i, a := range list {
		for k, b := range list {
			// Whether they are shapes does not matter.
			wantBool(t, "SameShapes", impl.SameShapes([]impl.Shape{a}, []impl.Shape{b}), i == k)
		}
	}
	again := append(wrongShapes(), greatShapes()...)
	wantBool(t, "SameShapes of long lists", impl.SameShapes(again, list[:len(again)]), true)
	wantBool(t, "SameShapes of more shapes", impl.SameShapes(again, list), false)
	wantBool(t, "SameShapes of less shapes", impl.SameShapes(again, list[:len(again)-1]), false)
	wantBool(t, "SameShapes of no shapes", impl.SameShapes(nil, []impl.Shape{}), true)
	wantBool(t, "SameShapes of one and none", impl.SameShapes(nil, []impl.Shape{{}}), false)
	other := slices.Clone(again)
	other[2], other[3] = other[3], other[2]
	wantBool(t, "SameShapes in another order", impl.SameShapes(again, other), false)
}

func TestStoreShape(t *testing.T) {
	for _, r := range storedRows() {
		got, ok := impl.StoreShape(r.s)
		wantText(t, "StoreShape", hex.EncodeToString([]byte(got)), ok, r.bytes)
		back, ok := impl.LoadShape(got)
		wantShapes(t, "LoadShape", []impl.Shape{back}, ok, []impl.Shape{r.s})
	}
	digests := []uint32{0x707b5dc3, 0xc68b61c6, 0x68be0b8e, 0xb496f25b, 0x3fc40841}
	for i, want := range digests {
		got, ok := impl.StoreShape(greatShapes()[i])
		var bytes []int64
		for _, b := range []byte(got) {
			bytes = append(bytes, int64(b))
		}
		if !ok || digestOf(bytes) != want {
			t.Errorf("StoreShape of %s is %x, %v", greatShapes()[i].Name, got, ok)
		}
	}
	for _, s := range wrongShapes() {
		got, ok := impl.StoreShape(s)
		wantNone(t, "StoreShape of a wrong shape", got, ok)
	}
}

func wantShapes(t *testing.T, what string, got []impl.Shape, ok bool, want []impl.Shape) {
	t.Helper()
	if !ok || len(got) != len(want) {
		t.Errorf("%s: got %v, %v, want %v", what, got, ok, want)
		return
	}
	for i := range got {
		if got[i].Name != want[i].Name {
			t.Errorf("%s: got the name %s, want %s", what, got[i].Name, want[i].Name)
		}
		wantField(t, what, got[i].Field, ok, want[i].Field)
	}
}

func wantNoShape(t *testing.T, what string, got impl.Shape, ok bool) {
	t.Helper()
	wantNone(t, what, got.Name, ok)
	wantNoField(t, what, got.Field, ok)
}

// TestShapesAreLoadedAsStored holds promise 8.
func TestShapesAreLoadedAsStored(t *testing.T) {
	for i, f := range manyFields() {
		s := impl.Shape{Name: strings.Repeat("xyzabcde", 2)[i%8 : i%8+i%7+1], Field: f}
		stored, ok := impl.StoreShape(s)
		wantBool(t, "whether StoreShape succeeds", ok, true)
		back, ok := impl.LoadShape(stored)
		wantShapes(t, "LoadShape of StoreShape", []impl.Shape{back}, ok, []impl.Shape{s})
	}
}

func TestBytesThatAreCut(t *testing.T) {
	for _, s := range append(greatShapes(), shape("a", "### #.# ###"), shape("b", ".")) {
		stored, _ := impl.StoreShape(s)
		for i := range stored {
			got, ok := impl.LoadShape(stored[:i])
			wantNoShape(t, "LoadShape of bytes that are cut behind", got, ok)
			got, ok = impl.LoadShape(stored[i+1:])
			wantNoShape(t, "LoadShape of bytes that are cut before", got, ok)
			for _, flip := range []byte{1, 32, 128, 255} {
				other := []byte(stored)
				other[i] ^= flip
				got, ok = impl.LoadShape(string(other))
				wantNoShape(t, "LoadShape of another byte", got, ok)
			}
		}
		for _, more := range []string{"\x00", "x", "S", "SHP1", stored, stored[:5], stored + stored + stored + stored + stored + stored + stored} {
			got, ok := impl.LoadShape(stored + more)
			wantNoShape(t, "LoadShape of more bytes", got, ok)
			got, ok = impl.LoadShape(more + stored)
			wantNoShape(t, "LoadShape behind more bytes", got, ok)
		}
	}
}

// sealed returns bytes with the check number behind them, made without the program.
func sealed(bytes string) string {
	check := checkBehind(0, bytes)
	return bytes + string([]byte{byte(check), byte(check >> 8)})
}

func TestLoadShapeFails(t *testing.T) {
	got, ok := impl.LoadShape(sealed("SHP1\x01a\x03\x01\x02\x00\x01\x02"))
	wantShapes(t, "LoadShape of what is sealed", []impl.Shape{got}, ok, []impl.Shape{shape("a", ".##")})
	for what, bytes := range map[string]string{
		"another mark":             "SHP2\x01a\x03\x01\x02\x00\x01\x02",
		"a mark in small letters":  "shp1\x01a\x03\x01\x02\x00\x01\x02",
		"no name":                  "SHP1\x00\x03\x01\x02\x00\x01\x02",
		"a name that is too long":  "SHP1\x09abcdefghi\x03\x01\x02\x00\x01\x02",
		"a wrong letter":           "SHP1\x01A\x03\x01\x02\x00\x01\x02",
		"no columns":               "SHP1\x01a\x00\x01\x00\x00",
		"no rows":                  "SHP1\x01a\x01\x00\x00\x00",
		"other sides":              "SHP1\x01a\x02\x01\x02\x00\x01\x02",
		"too many columns":         "SHP1\x01a\x11\x01\x01\x00\x11",
		"too many rows":            "SHP1\x01a\x01\x11\x01\x00\x11",
		"a run of nothing":         "SHP1\x01a\x03\x01\x03\x00\x03\x00\x00",
		"a last run of nothing":    "SHP1\x01a\x03\x01\x02\x00\x03\x00",
		"no runs":                  "SHP1\x01a\x03\x01\x00\x00",
		"a run that is cut":        "SHP1\x01a\x0f\x11\x01\x00\xff",
		"a length that is less":    "SHP1\x01a\x03\x01\x01\x00\x01\x02",
		"a length that is more":    "SHP1\x01a\x03\x01\x03\x00\x01\x02",
		"a length that is reverse": "SHP1\x01a\x03\x01\x00\x02\x01\x02",
		"a length beyond all":      "SHP1\x01a\x03\x01\xff\xff\x01\x02",
		"a name beyond all":        "SHP1\xffa\x03\x01\x02\x00\x01\x02",
		"nothing":                  "",
	} {
		got, ok := impl.LoadShape(sealed(bytes))
		wantNoShape(t, "LoadShape of "+what, got, ok)
		shapes, long, ok := impl.RecoverShapes(sealed(bytes))
		wantRecovered(t, "RecoverShapes of "+what, shapes, long, ok, nil, 0)
	}
	for _, s := range append(strange(), "\x00\x00", "SHP1", "SHP1\x01", "SHP1\xff") {
		got, ok := impl.LoadShape(s)
		wantNoShape(t, "LoadShape of a strange text", got, ok)
	}
	// The check number must be the one that is less than CheckSize.
	whole := sealed("SHP1\x01a\x03\x01\x02\x00\x01\x02")
	for low := range 256 {
		for high := range 256 {
			s := whole[:len(whole)-2] + string([]byte{byte(low), byte(high)})
			_, ok := impl.LoadShape(s)
			wantBool(t, "whether LoadShape of a check number succeeds", ok, s == whole)
		}
	}
}

func wantRecovered(t *testing.T, what string, got []impl.Shape, long int64, ok bool, want []impl.Shape, wantLong int) {
	t.Helper()
	wantShapes(t, what, got, ok, want)
	wantInteger(t, "the bytes of "+what, long, ok, int64(wantLong))
}

func TestStoreShapes(t *testing.T) {
	shapes := append(greatShapes(), shape("a", "#.#"))
	want := ""
	for count := range 9 {
		got, ok := impl.StoreShapes(shapes[:count])
		wantText(t, "StoreShapes", got, ok, want)
		back, long, ok := impl.RecoverShapes(got)
		wantRecovered(t, "RecoverShapes of StoreShapes", back, long, ok, shapes[:count], len(got))
		if count < len(shapes) {
			one, _ := impl.StoreShape(shapes[count])
			want += one
		}
	}
	got, ok := impl.StoreShapes(nil)
	wantText(t, "StoreShapes of none", got, ok, "")
	got, ok = impl.StoreShapes(append(shapes, shape("i", "#")))
	wantNone(t, "StoreShapes of too many", got, ok)
	for _, wrong := range wrongShapes() {
		for _, list := range [][]impl.Shape{{wrong}, {wrong, shapes[0]}, {shapes[0], wrong}, {shapes[0], shapes[1], wrong}} {
			got, ok := impl.StoreShapes(list)
			wantNone(t, "StoreShapes of a wrong shape", got, ok)
		}
	}
}

func TestRecoverShapes(t *testing.T) {
	shapes := []impl.Shape{shape("a", "### #.# ###"), shape("b", "."), {Name: "full", Field: allAlike(16, 16, true)}, shape("a", "#.#")}
	whole, _ := impl.StoreShapes(shapes)
	var ends []int
	for count := range 5 {
		stored, _ := impl.StoreShapes(shapes[:count])
		ends = append(ends, len(stored))
	}
	for i := range len(whole) + 1 {
		count := 4
		for ends[count] > i {
			count--
		}
		for _, behind := range []string{"", "\x00"} {
			got, long, ok := impl.RecoverShapes(whole[:i] + behind)
			// A byte behind bytes that are cut can be the one that was there.
			if behind == "" || whole[i:] == "" || whole[i:i+1] != behind {
				wantRecovered(t, "RecoverShapes of bytes that are cut", got, long, ok, shapes[:count], ends[count])
			}
		}
		if i == len(whole) {
			break
		}
		other := []byte(whole)
		other[i] ^= 1
		for ends[count] > i {
			count--
		}
		got, long, ok := impl.RecoverShapes(string(other))
		wantRecovered(t, "RecoverShapes of another byte", got, long, ok, shapes[:count], ends[count])
	}
	for _, s := range append(strange(), "x"+whole, whole[1:], "SHP1") {
		got, long, ok := impl.RecoverShapes(s)
		wantRecovered(t, "RecoverShapes of other bytes", got, long, ok, nil, 0)
	}
	// No more than MaxShapes are recovered, even if there are others.
	got, long, ok := impl.RecoverShapes(whole + whole + whole)
	wantRecovered(t, "RecoverShapes of too many", got, long, ok, slices.Concat(shapes, shapes), 2*len(whole))
	got, long, ok = impl.RecoverShapes(whole + whole + "x")
	wantRecovered(t, "RecoverShapes before other bytes", got, long, ok, slices.Concat(shapes, shapes), 2*len(whole))
}
