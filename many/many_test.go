package many_test

import (
	"fmt"
	"math"
	"math/rand/v2"
	"slices"
	"strings"
	"sync"
	"testing"
	"testing/synctest"

	"bindery/api"
	"bindery/desk"
	"bindery/many"
	"bindery/plain"
)

const (
	maxTexts   = 50
	maxWorkers = 16
)

// opening are lines that open a bundle of a page, with such a body.
const opening = "add Content-Type: multipart/related; boundary=x\nadd Content-Location: http://a/b\nadd\nadd --x\nadd Content-Type: text/html\nadd\nadd %s\nadd --x--\nopen\n"

// texts are so many, each one answered otherwise, and in another time.
func texts(n int) []string {
	var l []string
	for i := range n {
		s := fmt.Sprint("dots ", i, "\n")
		if i%3 == 0 {
			s += fmt.Sprintf(opening, fmt.Sprintf("<a href=%d><a href=b>", i)) + strings.Repeat("bind\nlead 0\nparts\n", n-i)
		}
		l = append(l, s)
	}
	return l
}

// sessions are the answers, one after another.
func sessions(texts []string) []string {
	var l []string
	for _, s := range texts {
		l = append(l, desk.Session(s))
	}
	return l
}

func wantAll(t *testing.T, texts []string, workers int, want []string) {
	t.Helper()
	got, err := many.All(texts, workers)
	if !slices.Equal(got, want) || err != nil {
		t.Errorf("%d texts, %d workers: got %.300q, %v, want %.300q", len(texts), workers, got, err, want)
	}
}

// wantWrong asks for ErrLimit without a place, and nothing beside it.
func wantWrong(t *testing.T, texts []string, workers int) {
	t.Helper()
	got, err := many.All(texts, workers)
	if e, place := plain.Place(err); e != api.ErrLimit || place != -1 || len(got) != 0 {
		t.Errorf("%d texts, %d workers: got %.300q, error %d at %d, want ErrLimit alone", len(texts), workers, got, e, place)
	}
}

// 9.1

func TestAll(t *testing.T) {
	wantAll(t, []string{"dots a/../b", "", "help x\n\n", "parts"}, 2, []string{"is b\n", "ok\n", "error 3\nok\n", "error 7\n"})
	wantAll(t, []string{"pack Man"}, 16, []string{"\"TWFu%0d%0a\"\n"})
	// What is too long is answered as a session is, not as an error of all.
	long := strings.Repeat("x", api.MaxText+1)
	wantAll(t, []string{long, "dots a", long}, 3, []string{"error 4\n", "is a\n", "error 4\n"})
	// No text hangs on another one: what one opens the next one does not have.
	open := fmt.Sprintf(opening, "a")
	wantAll(t, []string{open + "at 0", "at 0", open, "at 0"}, 1, []string{desk.Session(open + "at 0"), "error 7\n", desk.Session(open), "error 7\n"})
}

// However many workers there are makes no difference.
func TestAllWorkers(t *testing.T) {
	for _, n := range []int{0, 1, 2, 3, 15, 16, 17, 49, 50} {
		l := texts(n)
		want := sessions(l)
		for workers := 1; workers <= maxWorkers; workers++ {
			wantAll(t, l, workers, want)
		}
	}
	for workers := 1; workers <= maxWorkers; workers++ {
		wantAll(t, nil, workers, nil)
		wantAll(t, slices.Repeat([]string{"dots a"}, maxTexts), workers, slices.Repeat([]string{"is a\n"}, maxTexts))
	}
}

func TestAllWrong(t *testing.T) {
	for _, workers := range []int{0, -1, -16, 17, 18, 32, 100, math.MinInt, math.MaxInt, 1 << 32, 1<<32 + 1} {
		for _, n := range []int{0, 1, 50, 51} {
			wantWrong(t, make([]string, n), workers)
		}
	}
	for workers := 1; workers <= maxWorkers; workers++ {
		for _, n := range []int{51, 52, 100, 1000} {
			wantWrong(t, make([]string, n), workers)
		}
	}
}

func TestAllDrawn(t *testing.T) {
	r := rand.New(rand.NewPCG(9, 1))
	lines := []string{"", "open", "parts", "at 0", "lead 0", "bind", "help", "dots a/./b", "x", "add a", strings.TrimSuffix(fmt.Sprintf(opening, "<a href=b#c>"), "\n"), "quote \xff", "find http://a/b"}
	for range 150 {
		var l []string
		for range r.IntN(maxTexts + 1) {
			s := ""
			for range r.IntN(8) {
				s += lines[r.IntN(len(lines))] + "\n"
			}
			l = append(l, s)
		}
		wantAll(t, l, 1+r.IntN(maxWorkers), sessions(l))
	}
}

// P4

func TestTextsStay(t *testing.T) {
	all := texts(maxTexts + 3)
	before := slices.Clone(all)
	l := all[:maxTexts-5]
	want := sessions(l)
	first, err := many.All(l, 4)
	if err != nil {
		t.Fatal(err)
	}
	second, _ := many.All(l, 4)
	for i := range first {
		first[i] = "X"
	}
	_ = append(first, "X")
	if !slices.Equal(all, before) {
		t.Errorf("what was handed in was written into")
	}
	if !slices.Equal(second, want) {
		t.Errorf("got %.300q, want %.300q", second, want)
	}
}

// When it answers, no worker is left: what is handed in may be written into again, and nobody waits for ever.
func TestWorkersAreGone(t *testing.T) {
	for _, n := range []int{0, 1, 5, maxTexts, maxTexts + 1} {
		for workers := 0; workers <= maxWorkers+1; workers++ {
			synctest.Test(t, func(t *testing.T) {
				l := texts(n)
				_, _ = many.All(l, workers)
				clear(l)
			})
		}
	}
}

// Several calls at the same time have nothing of each other.
func TestAllAtOnce(t *testing.T) {
	var calls sync.WaitGroup
	for k := range 8 {
		calls.Go(func() {
			l := texts(10 + k)
			want := sessions(l)
			for workers := 1; workers <= maxWorkers; workers += 5 {
				got, err := many.All(l, workers)
				if !slices.Equal(got, want) || err != nil {
					t.Errorf("%d texts, %d workers: got %.300q, %v", len(l), workers, got, err)
				}
			}
		})
	}
	calls.Wait()
}

func FuzzAll(f *testing.F) {
	f.Add("dots a", "parts", fmt.Sprintf(opening, "<a href=b>")+"bind", 3)
	f.Add("", "\n", "add x\nopen", 17)
	f.Fuzz(func(t *testing.T, one, two, three string, workers int) {
		l := []string{one, two, three, one}
		if workers < 1 || workers > maxWorkers {
			wantWrong(t, l, workers)
			return
		}
		wantAll(t, l, workers, sessions(l))
	})
}
