package text_test

import (
	"encoding/hex"
	"math"
	"slices"
	"strconv"
	"strings"
	"testing"

	"rubato/api"
	"rubato/fail"
	"rubato/num"
	"rubato/text"
)

// unhex makes a text of its bytes, written to the base 16, with blanks between as one likes.
func unhex(t testing.TB, s string) string {
	t.Helper()
	b, err := hex.DecodeString(strings.ReplaceAll(s, " ", ""))
	if err != nil {
		t.Fatal(err)
	}
	return string(b)
}

// tohex writes the bytes of a text; of a long one its beginning.
func tohex(s string) string {
	if len(s) > 60 {
		return hex.EncodeToString([]byte(s[:60])) + ".. (" + strconv.Itoa(len(s)) + " bytes)"
	}
	return hex.EncodeToString([]byte(s))
}

// wantFault holds an error to be New of the last op and a code, wrapped as those ahead; nil, if the code is OK.
func wantFault(t testing.TB, what string, err error, e api.Errno, ops ...string) {
	t.Helper()
	if e == api.OK {
		if err != nil {
			t.Fatalf("%s: %v, want no fault", what, err)
		}
		return
	}
	words := strings.Join(ops, ": ") + ": error " + strconv.Itoa(int(e))
	if fail.Code(err) != e || !slices.Equal(fail.Trace(err), ops) || fail.Text(err) != words || err.Error() != words {
		t.Fatalf("%s: %v, of code %d and trace %q, want %s", what, err, int(fail.Code(err)), fail.Trace(err), words)
	}
}

// wantBytes holds a writer to bytes, however often it is asked.
func wantBytes(t testing.TB, what string, w *text.Writer, want string) {
	t.Helper()
	for range 3 {
		if s, err := w.Done(); s != want || err != nil {
			t.Fatalf("%s: Done = %s, %v, want %s", what, tohex(s), err, tohex(want))
		}
	}
}

// wantWrong holds a writer to a fault of a piece, however often it is asked.
func wantWrong(t testing.TB, what string, w *text.Writer, e api.Errno, piece string) {
	t.Helper()
	for range 3 {
		s, err := w.Done()
		if s != "" {
			t.Fatalf("%s: Done = %s beside %v", what, tohex(s), err)
		}
		wantFault(t, what, err, e, "write", piece)
	}
}

// laying is what lays a piece, and the bytes that are laid.
type laying struct {
	name string
	lay  func(w *text.Writer)
	s    string
}

func layNum(l ...int) func(w *text.Writer) { return func(w *text.Writer) { w.Num(l...) } }

func layText(s string) func(w *text.Writer) { return func(w *text.Writer) { w.Text(s) } }

func layRow(l ...int) func(w *text.Writer) { return func(w *text.Writer) { w.Row(l) } }

func layFlag(b bool) func(w *text.Writer) { return func(w *text.Writer) { w.Flag(b) } }

const greatest = "88 7f ff ff ff ff ff ff ff"

// layings are pieces of all kinds, with their bytes as the chapters' words tell them.
func layings(t testing.TB) []laying {
	h := func(s string) string { return unhex(t, s) }
	a127, a128, a255, a256 := strings.Repeat("a", 127), strings.Repeat("b", 128), strings.Repeat("c", 255), strings.Repeat("d", 256)
	return []laying{
		{"Num of none", layNum(), ""},
		{"Num 0", layNum(0), h("00")},
		{"Num 7", layNum(7), h("07")},
		{"Num 127", layNum(127), h("7f")},
		{"Num 128", layNum(128), h("81 80")},
		{"Num 258", layNum(258), h("82 01 02")},
		{"Num, the greatest", layNum(math.MaxInt), h(greatest)},
		{"Num of two", layNum(1, 0), h("01 00")},
		{"Num of several", layNum(0, 127, 128, 258, math.MaxInt, 5), h("00 7f 81 80 82 01 02 " + greatest + " 05")},
		{"Text, empty", layText(""), h("00")},
		{"Text hi", layText("hi"), h("02 68 69")},
		{"Text of a zero", layText("\x00"), h("01 00")},
		{"Text of 127", layText(a127), h("7f") + a127},
		{"Text of 128", layText(a128), h("81 80") + a128},
		{"Text of 255", layText(a255), h("81 ff") + a255},
		{"Text of 256", layText(a256), h("82 01 00") + a256},
		{"Text that is no UTF-8", layText("\xff\xc3\x28\x80\x00"), h("05 ff c3 28 80 00")},
		{"Text of runes", layText("aäz€"), h("07 61 c3 a4 7a e2 82 ac")},
		{"Row, nil", func(w *text.Writer) { w.Row(nil) }, h("00")},
		{"Row, empty", func(w *text.Writer) { w.Row([]int{}) }, h("00")},
		{"Row of 0", layRow(0), h("01 00")},
		{"Row of 128", layRow(128), h("01 81 80")},
		{"Row of several", layRow(127, 128, 258, math.MaxInt, 0), h("05 7f 81 80 82 01 02 " + greatest + " 00")},
		{"Row of 127", layRow(slices.Repeat([]int{9}, 127)...), h("7f") + strings.Repeat("\x09", 127)},
		{"Row of 1000", layRow(slices.Repeat([]int{200}, 1000)...), h("82 03 e8") + strings.Repeat("\x81\xc8", 1000)},
		{"Row of 1001", layRow(slices.Repeat([]int{3}, 1001)...), h("82 03 e9") + strings.Repeat("\x03", 1001)},
		{"Flag true", layFlag(true), h("01")},
		{"Flag false", layFlag(false), h("00")},
	}
}

// wrongLaying is what lays no piece, and the piece's name.
type wrongLaying struct {
	name  string
	lay   func(w *text.Writer)
	piece string
}

func wrongLayings() []wrongLaying {
	return []wrongLaying{
		{"Num -1", layNum(-1), "num"},
		{"Num, the least", layNum(math.MinInt), "num"},
		{"Num, below 0 first", layNum(-3, 5, 6), "num"},
		{"Num, below 0 between", layNum(5, -3, 6), "num"},
		{"Num, below 0 last", layNum(5, 6, -3), "num"},
		{"Row of -1", layRow(-1), "row"},
		{"Row of the least", layRow(math.MinInt), "row"},
		{"Row, below 0 first", layRow(-3, 5, 6), "row"},
		{"Row, below 0 between", layRow(5, -3, 6), "row"},
		{"Row, below 0 last", layRow(5, 6, -3), "row"},
	}
}

func TestP61Example(t *testing.T) {
	w := text.Writer{}
	w.Num(7)
	w.Text("hi")
	wantBytes(t, "the example", &w, unhex(t, "07 02 68 69"))
}

func TestP61Nothing(t *testing.T) {
	wantBytes(t, "a plain writer", &text.Writer{}, "")
	wantBytes(t, "a new writer", new(text.Writer), "")
}

// Each piece by itself, and each behind each other one.
func TestP61Pieces(t *testing.T) {
	all := layings(t)
	for _, a := range all {
		w := &text.Writer{}
		a.lay(w)
		wantBytes(t, a.name, w, a.s)
		for _, b := range all {
			w := text.Writer{}
			a.lay(&w)
			b.lay(&w)
			wantBytes(t, a.name+", "+b.name, &w, a.s+b.s)
		}
	}
}

// All of them one behind the other; Done, asked between them, changes nothing.
func TestP61Behind(t *testing.T) {
	asked, w, want := &text.Writer{}, &text.Writer{}, ""
	for range 3 {
		for _, x := range layings(t) {
			x.lay(asked)
			x.lay(w)
			want += x.s
			wantBytes(t, "up to "+x.name, asked, want)
		}
	}
	wantBytes(t, "all", w, want)
}

func TestP61Wrong(t *testing.T) {
	for _, x := range wrongLayings() {
		w := &text.Writer{}
		x.lay(w)
		wantWrong(t, x.name, w, api.ErrArg, x.piece)
		for _, ahead := range layings(t) {
			w := &text.Writer{}
			ahead.lay(w)
			x.lay(w)
			wantWrong(t, ahead.name+", "+x.name, w, api.ErrArg, x.piece)
		}
	}
}

// A number below 0 at each place of several, and of a row.
func TestP61Below(t *testing.T) {
	for _, n := range []int{-1, -2, -127, -128, -256, -1 << 32, -1<<32 + 5, math.MinInt + 1, math.MinInt} {
		for _, size := range []int{1, 2, 3, 6, 129, 1001} {
			for i := 0; i < size; i += 1 + size/7 {
				l := slices.Repeat([]int{4}, size)
				l[i] = n
				several, row := &text.Writer{}, &text.Writer{}
				several.Num(l...)
				row.Row(l)
				wantWrong(t, "Num", several, api.ErrArg, "num")
				wantWrong(t, "Row", row, api.ErrArg, "row")
			}
		}
	}
}

// Many pieces, long texts and long rows: a writer has no limit of its own.
func TestP61Many(t *testing.T) {
	w, b := &text.Writer{}, strings.Builder{}
	for i := range 200000 {
		w.Num(i % 128)
		b.WriteByte(byte(i % 128))
	}
	long := strings.Repeat("long\xff", 100000)
	w.Text(long)
	b.WriteString(unhex(t, "83 07 a1 20") + long)
	w.Row(slices.Repeat([]int{1}, 70000))
	b.WriteString(unhex(t, "83 01 11 70") + strings.Repeat("\x01", 70000))
	wantBytes(t, "many", w, b.String())
}

func TestP61NilWriter(t *testing.T) {
	var w *text.Writer
	for range 2 {
		for _, x := range layings(t) {
			x.lay(w)
			s, err := w.Done()
			if s != "" {
				t.Fatalf("%s: Done = %s", x.name, tohex(s))
			}
			wantFault(t, x.name, err, api.ErrNil, "write")
		}
		for _, x := range wrongLayings() {
			x.lay(w)
			_, err := w.Done()
			wantFault(t, x.name, err, api.ErrNil, "write")
		}
	}
}

// Behind the first fault nothing is laid, and no other fault is told.
func TestP65WriterFirst(t *testing.T) {
	behind := layings(t)
	for _, x := range wrongLayings() {
		behind = append(behind, laying{x.name, x.lay, ""})
	}
	for _, first := range wrongLayings() {
		w := &text.Writer{}
		w.Text("ahead")
		first.lay(w)
		for _, x := range behind {
			one := &text.Writer{}
			first.lay(one)
			x.lay(one)
			wantWrong(t, first.name+", "+x.name, one, api.ErrArg, first.piece)
			x.lay(w)
			wantWrong(t, first.name+" and all up to "+x.name, w, api.ErrArg, first.piece)
		}
	}
}

// What is handed in stays as it was, its spare room too, and isn't kept.
func TestP61KeepsNothing(t *testing.T) {
	w := &text.Writer{}
	l := []int{5, 300, 7, 8, 9}
	b := []byte("hi")
	w.Num(l[:2]...)
	w.Row(l[:3])
	w.Text(string(b))
	w.Num(append(l[:0:0], 5)...)
	if !slices.Equal(l, []int{5, 300, 7, 8, 9}) {
		t.Errorf("what was handed in is %v", l)
	}
	l[0], l[1], l[2], b[0] = 1, 2, 3, 'x'
	wantBytes(t, "changed behind it", w, unhex(t, "05 82 01 2c 03 05 82 01 2c 07 02 68 69 05"))

	wrong := []int{5, -1, 7, 8}
	w.Row(wrong[:3])
	w.Num(wrong[:2]...)
	if !slices.Equal(wrong, []int{5, -1, 7, 8}) {
		t.Errorf("what was handed in is %v", wrong)
	}
}

// What Done told stays, whatever is laid behind it.
func TestP61ToldStays(t *testing.T) {
	w := &text.Writer{}
	w.Num(1)
	w.Text("one")
	first, _ := w.Done()
	w.Num(2)
	second, _ := w.Done()
	w.Row([]int{3, -3})
	if first != unhex(t, "01 03 6f 6e 65") || second != unhex(t, "01 03 6f 6e 65 02") {
		t.Errorf("told were %s and %s", tohex(first), tohex(second))
	}
	wantWrong(t, "behind what was told", w, api.ErrArg, "row")
}

// A fault that is told is a new one: whoever changes it changes none that is told later.
func TestP63FaultIsNew(t *testing.T) {
	spoil := func(err error) {
		for f, is := err.(*fail.Fault); is; f, is = err.(*fail.Fault) {
			err = f.Err
			f.Op, f.Err = "spoiled", api.ErrFull
		}
	}
	w := &text.Writer{}
	w.Num(-1)
	r := text.New("\x02")
	r.Flag()
	var noWriter *text.Writer
	var noReader *text.Reader
	for range 3 {
		_, err := w.Done()
		wantFault(t, "a writer", err, api.ErrArg, "write", "num")
		spoil(err)
		err = r.Done()
		wantFault(t, "a reader", err, api.ErrForm, "read", "flag")
		spoil(err)
		_, err = noWriter.Done()
		wantFault(t, "a nil writer", err, api.ErrNil, "write")
		spoil(err)
		err = noReader.Done()
		wantFault(t, "a nil reader", err, api.ErrNil, "read")
		spoil(err)
	}
}

// A copy of a writer goes on by itself, as do writers beside each other.
func TestP61Copies(t *testing.T) {
	w := &text.Writer{}
	w.Num(1, 2, 3)
	c := *w
	w.Num(4)
	c.Num(5)
	d := c
	d.Num(-1)
	c.Num(6)
	wantBytes(t, "a writer", w, unhex(t, "01 02 03 04"))
	wantBytes(t, "its copy", &c, unhex(t, "01 02 03 05 06"))
	wantWrong(t, "the copy's copy", &d, api.ErrArg, "num")
	other := &text.Writer{}
	other.Flag(true)
	wantBytes(t, "a writer beside another", w, unhex(t, "01 02 03 04"))
	wantBytes(t, "another one", other, "\x01")
}

// size tells the bytes of a number.
func size(t testing.TB, n int) string {
	t.Helper()
	s, e := num.Put(n)
	if e != api.OK {
		t.Fatalf("Put(%d) = %v", n, e)
	}
	return s
}
