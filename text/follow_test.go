package text_test

import (
	"math"
	"math/rand"
	"slices"
	"strings"
	"testing"

	"rubato/api"
	"rubato/text"
)

// laid is a piece that is laid, and read: its name, and what it is.
type laid struct {
	piece string
	g     got
}

// lay lays a piece.
func (p laid) lay(w *text.Writer) {
	switch p.piece {
	case "num":
		w.Num(p.g.n)
	case "text":
		w.Text(p.g.s)
	case "row":
		w.Row(p.g.l)
	case "flag":
		w.Flag(p.g.b)
	}
}

// most tells what just lets the piece be read.
func (p laid) most() int {
	switch p.piece {
	case "num":
		return p.g.n
	case "text":
		return len(p.g.s)
	}
	return len(p.g.l)
}

var names = []string{"num", "text", "row", "flag"}

// anyNumber makes numbers of all lengths alike.
func anyNumber(r *rand.Rand) int { return r.Int() >> r.Intn(63) }

func anyText(r *rand.Rand, most int) string {
	b := make([]byte, r.Intn(most+1))
	r.Read(b)
	return string(b)
}

func anyPiece(r *rand.Rand) laid {
	p := laid{piece: names[r.Intn(len(names))]}
	switch p.piece {
	case "num":
		p.g.n = anyNumber(r)
	case "text":
		p.g.s = anyText(r, 1+r.Intn(200))
	case "row":
		for range r.Intn(1 + r.Intn(150)) {
			p.g.l = append(p.g.l, anyNumber(r))
		}
	case "flag":
		p.g.b = r.Intn(2) == 1
	}
	return p
}

func anyPieces(r *rand.Rand, most int) []laid {
	l := make([]laid, r.Intn(most+1))
	for i := range l {
		l[i] = anyPiece(r)
	}
	return l
}

func bytesOf(t testing.TB, l []laid) string {
	t.Helper()
	w := &text.Writer{}
	for _, p := range l {
		p.lay(w)
	}
	s, err := w.Done()
	if err != nil {
		t.Fatalf("%d pieces: %v", len(l), err)
	}
	return s
}

// readBack holds that pieces are read of bytes as they were laid, each with some room more than it needs.
func readBack(t testing.TB, s string, l []laid, room int) {
	t.Helper()
	r := text.New(s)
	for i, p := range l {
		most := p.most()
		if most <= math.MaxInt-room {
			most += room
		}
		if g := read(r, asked{p.piece, most}); !g.same(p.g) {
			t.Fatalf("%s, piece %d, of %s: %v, want %v", p.piece, i, tohex(s), g, p.g)
		}
	}
	r.End()
	wantAt(t, "the end of "+tohex(s), r, len(s))
}

// Pieces that were laid are read as they were.
func TestP64Back(t *testing.T) {
	chance := rand.New(rand.NewSource(64))
	for range 20000 {
		l := anyPieces(chance, 12)
		s := bytesOf(t, l)
		readBack(t, s, l, 0)
		readBack(t, s, l, 1+chance.Intn(1000))
	}
}

// The ends of what may be laid and read: the farthest numbers, the longest rows, long texts.
func TestP64BackFar(t *testing.T) {
	long := make([]int, 1000)
	for i := range long {
		long[i] = math.MaxInt - i*i*i*i
	}
	l := []laid{
		{"num", got{n: math.MaxInt}}, {"row", got{l: long}}, {"text", got{s: strings.Repeat("\xff\x00\x80", 50000)}}, {"flag", got{b: true}},
		{"num", got{}}, {"row", got{}}, {"text", got{}}, {"flag", got{}}, {"text", got{s: "\x00"}}, {"row", got{l: []int{0}}},
		{"text", got{s: strings.Repeat("t", 127)}}, {"text", got{s: strings.Repeat("t", 128)}}, {"num", got{n: 127}}, {"num", got{n: 128}},
	}
	for range 5 {
		readBack(t, bytesOf(t, l), l, 0)
		readBack(t, bytesOf(t, l), l, 5000)
		l = append(l, l...)
	}
}

// Several numbers of one call are read one by one.
func TestP64Several(t *testing.T) {
	chance := rand.New(rand.NewSource(164))
	for range 2000 {
		l := make([]int, chance.Intn(20))
		w := &text.Writer{}
		for i := range l {
			l[i] = anyNumber(chance)
		}
		w.Num(l...)
		s, err := w.Done()
		if err != nil {
			t.Fatal(err)
		}
		r := text.New(s)
		for _, n := range l {
			if k := r.Num(math.MaxInt); k != n {
				t.Fatalf("%v: read was %d, want %d", l, k, n)
			}
		}
		r.End()
		wantAt(t, "several", r, len(s))
	}
}

// least reads pieces of bytes, and holds that they, laid again, are these bytes, if all were read up to the end; it tells whether they were.
func least(t testing.TB, s string, pieces ...string) bool {
	t.Helper()
	r, w := text.New(s), &text.Writer{}
	for _, name := range pieces {
		laid{name, read(r, asked{name, math.MaxInt})}.lay(w)
	}
	r.End()
	if r.Done() != nil {
		return false
	}
	wantBytes(t, "laid again", w, s)
	return true
}

// Each text of up to two bytes, as each one and each two pieces.
func TestP65LeastAll(t *testing.T) {
	whole := map[string]int{}
	for i := range 1 + 1<<8 + 1<<16 {
		s := string([]byte{byte(i >> 8), byte(i)})
		if i >= 1<<16 {
			s = s[1:]
		}
		if i == 1<<8+1<<16 {
			s = ""
		}
		for _, a := range names {
			if least(t, s, a) {
				whole[a]++
			}
			for _, b := range names {
				if least(t, s, a, b) {
					whole[a+" "+b]++
				}
			}
		}
		if least(t, s) != (s == "") {
			t.Fatalf("nothing was read of %s", tohex(s))
		}
	}
	for what, want := range map[string]int{
		"num": 128 + 128, "text": 1 + 256, "row": 1 + 128, "flag": 2, "num flag": 128 * 2, "flag num": 2 * 128, "text text": 1, "row num": 128, "flag flag": 4,
	} {
		if whole[what] != want {
			t.Errorf("%s: %d texts, want %d", what, whole[what], want)
		}
	}
}

// Pieces' bytes with some of them changed, taken out or doubled.
func TestP65LeastRandom(t *testing.T) {
	chance := rand.New(rand.NewSource(65))
	some := 0
	for range 100000 {
		l := anyPieces(chance, 4)
		b := []byte(bytesOf(t, l) + anyText(chance, chance.Intn(2)))
		if len(b) == 0 {
			continue
		}
		switch at := chance.Intn(len(b)); chance.Intn(4) {
		case 0:
			b[at] = byte(chance.Int())
		case 1:
			b = slices.Delete(b, at, at+1)
		case 2:
			b = slices.Insert(b, at, b[at])
		}
		pieces := make([]string, len(l))
		for i, p := range l {
			pieces[i] = p.piece
		}
		if least(t, string(b), pieces...) {
			some++
		}
	}
	if some < 1000 {
		t.Errorf("only %d were read", some)
	}
}

// Whatever is asked of whatever bytes: what is read, the place and the fault are those of the chapter's words.
func TestP65AnyReads(t *testing.T) {
	chance := rand.New(rand.NewSource(165))
	mosts := []int{math.MinInt, -1, 0, 1, 2, 5, 127, 128, 1000, 1001, math.MaxInt}
	every := append([]string{"end"}, names...)
	faults := map[string]int{}
	for range 60000 {
		s := anyText(chance, 12)
		if chance.Intn(3) > 0 {
			s = bytesOf(t, anyPieces(chance, 5)) + anyText(chance, chance.Intn(3))
		}
		r, at, first, piece := text.New(s), 0, api.OK, ""
		for range 8 {
			a := asked{every[chance.Intn(len(every))], mosts[chance.Intn(len(mosts))]}
			want := got{}
			if first == api.OK {
				want, at, first = model(s, at, a)
				piece = a.piece
			}
			if g := read(r, a); !g.same(want) || r.At() != at {
				t.Fatalf("%s of %s, most %d: %v, At %d, want %v, %d", a.piece, tohex(s), a.most, g, r.At(), want, at)
			}
			wantFault(t, a.piece+" of "+tohex(s), r.Done(), first, "read", piece)
		}
		if first != api.OK {
			faults[piece+" "+first.Error()]++
		}
	}
	for _, x := range []string{
		"num error 3", "num error 4", "num error 5", "text error 3", "text error 4", "text error 5", "row error 3", "row error 4", "row error 5",
		"flag error 4", "flag error 5", "end error 6",
	} {
		if faults[x] == 0 {
			t.Errorf("no fault was: %s", x)
		}
	}
	if len(faults) != 12 {
		t.Errorf("faults were: %v", faults)
	}
}
