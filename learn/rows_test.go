package learn_test

import (
	"bytes"
	"math"
	"math/rand"
	"slices"
	"testing"

	"amnesty/api"
	"amnesty/learn"
)

// three are the rows of the chapter's examples.
func three() plain { return plainOf(row(0, 1, 0, 0), row(1, 3, 0, 0), row(2, 5, 0, 1)) }

// beyond returns what lies beyond each bound of a row.
func beyond() []api.Row {
	rows := []api.Row{row(0, 0, 0, -1), row(0, 0, 0, 8), row(0, 0, 0, math.MinInt), row(0, 0, 0, math.MaxInt), row(1001, 1001, 1001, 8)}
	for column := range api.Columns {
		for _, x := range []int{-1001, 1001, math.MinInt, math.MaxInt} {
			r := row(0, 0, 0, 0)
			r.X[column] = x
			rows = append(rows, r)
		}
	}
	return rows
}

// atBounds returns what lies at the bounds of a row.
func atBounds() []api.Row {
	var rows []api.Row
	for _, a := range []int{-1000, 1000} {
		for _, b := range []int{-1000, 1000} {
			for _, c := range []int{-1000, 1000} {
				rows = append(rows, row(a, b, c, 0), row(a, b, c, 7))
			}
		}
	}
	return rows
}

func TestP5_1Bounds(t *testing.T) {
	m, content := learn.New(), plain{}
	content.check(t, m)
	for _, r := range atBounds() {
		learnRow(t, m, r)
		content[r]++
		content.check(t, m)
	}
	for _, r := range atBounds() {
		unlearnRow(t, m, r)
		delete(content, r)
		content.check(t, m)
	}
}

func TestP5_1Refuses(t *testing.T) {
	for _, content := range []plain{{}, three()} {
		m := content.model(t)
		for _, r := range beyond() {
			if e := m.Learn(r); e != api.ErrArg {
				t.Errorf("Learn(%v): %d, expected ErrArg", r, e)
			}
			if e := m.Unlearn(r); e != api.ErrArg {
				t.Errorf("Unlearn(%v): %d, expected ErrArg", r, e)
			}
			content.check(t, m)
		}
	}
}

// TestP5_1NotThere: a row that differs in one number, or in the label, is another one.
func TestP5_1NotThere(t *testing.T) {
	content := plainOf(row(1, 2, 3, 4))
	m := content.model(t)
	for _, r := range []api.Row{row(0, 2, 3, 4), row(2, 2, 3, 4), row(1, 1, 3, 4), row(1, 3, 3, 4), row(1, 2, 2, 4), row(1, 2, 4, 4), row(1, 2, 3, 3), row(1, 2, 3, 5), row(3, 2, 1, 4), row(-1, -2, -3, 4)} {
		if e := m.Unlearn(r); e != api.ErrNone {
			t.Errorf("Unlearn(%v): %d, expected ErrNone", r, e)
		}
		content.check(t, m)
	}
	if e := learn.New().Unlearn(row(1, 2, 3, 4)); e != api.ErrNone {
		t.Errorf("Unlearn from a model without rows: %d, expected ErrNone", e)
	}
}

// TestP5_1Copies: a row that was learned several times goes by and by.
func TestP5_1Copies(t *testing.T) {
	again, other := row(1, 2, 3, 4), row(1, 2, 3, 5)
	m := learn.New()
	for n := 1; n <= 3; n++ {
		learnRow(t, m, again)
		plain{again: n}.check(t, m)
	}
	learnRow(t, m, other)
	for n := 2; n > 0; n-- {
		unlearnRow(t, m, again)
		plain{again: n, other: 1}.check(t, m)
	}
	unlearnRow(t, m, again)
	plainOf(other).check(t, m)
	if e := m.Unlearn(again); e != api.ErrNone {
		t.Errorf("Unlearn of a row that was unlearned as often as it was learned: %d, expected ErrNone", e)
	}
	plainOf(other).check(t, m)
}

// TestP5_1Full: copies count, and a full model takes no row, not even one that it has.
func TestP5_1Full(t *testing.T) {
	copies := plain{row(0, 0, 0, 0): api.MaxRows}
	different := plain{}
	for i := range api.MaxRows {
		different[row(i, -i, 2*i-1000, i%8)]++
	}
	for _, content := range []plain{copies, different} {
		m := content.model(t)
		for _, r := range []api.Row{row(0, 0, 0, 0), row(1, 1, 1, 1), row(1000, 0, 0, 7)} {
			if e := m.Learn(r); e != api.ErrFull {
				t.Errorf("Learn(%v) by a full model: %d, expected ErrFull", r, e)
			}
			content.check(t, m)
		}
		for _, r := range beyond() {
			if e := m.Learn(r); e != api.ErrArg {
				t.Errorf("Learn(%v) by a full model: %d, expected ErrArg", r, e)
			}
		}
		for _, r := range content.different()[:1] {
			unlearnRow(t, m, r)
			learnRow(t, m, r)
			content.check(t, m)
		}
	}
}

func TestP5_6Example(t *testing.T) {
	m := learn.New()
	checkImage(t, m, 0, 0)
	learnRow(t, m, row(-1, 0, 1000, 7))
	learnRow(t, m, row(-1, 0, 1000, 7))
	checkImage(t, m, 0, 1, 3, 231, 3, 232, 7, 208, 7, 0, 2)
	unlearnRow(t, m, row(-1, 0, 1000, 7))
	checkImage(t, m, 0, 1, 3, 231, 3, 232, 7, 208, 7, 0, 1)
	unlearnRow(t, m, row(-1, 0, 1000, 7))
	checkImage(t, m, 0, 0)
}

func checkImage(t *testing.T, m *learn.Model, want ...byte) {
	t.Helper()
	if got := m.Image(); !bytes.Equal(got, want) {
		t.Errorf("the image is %v, expected %v", got, want)
	}
}

// TestP5_6Order: the first column decides, then the second one, then the third one, then the label.
func TestP5_6Order(t *testing.T) {
	m := plainOf(row(-1000, 0, 0, 3), row(-1000, 0, 0, 1), row(-1000, 0, -1, 7), row(-1000, -1, 5, 7), row(-999, -1000, -1000, 0)).model(t)
	checkImage(t, m, 0, 5,
		0, 0, 3, 231, 3, 237, 7, 0, 1,
		0, 0, 3, 232, 3, 231, 7, 0, 1,
		0, 0, 3, 232, 3, 232, 1, 0, 1,
		0, 0, 3, 232, 3, 232, 3, 0, 1,
		0, 1, 0, 0, 0, 0, 0, 0, 1)
}

// TestP5_6Great: numbers of rows of more than one byte.
func TestP5_6Great(t *testing.T) {
	checkImage(t, plain{row(1000, -1000, 0, 0): 500}.model(t), 0, 1, 7, 208, 0, 0, 3, 232, 0, 1, 244)
	checkImage(t, plain{row(0, 0, 0, 5): 255, row(0, 0, 0, 6): 1}.model(t), 0, 2, 3, 232, 3, 232, 3, 232, 5, 0, 255, 3, 232, 3, 232, 3, 232, 6, 0, 1)
	content := plain{}
	for i := range 300 {
		content[row(i, 0, 0, 0)]++
	}
	image := content.model(t).Image()
	if len(image) != 2+300*9 || image[0] != 1 || image[1] != 44 {
		t.Errorf("the image of 300 rows has %d bytes, and begins with %v", len(image), image[:2])
	}
}

// TestP7Image: an image can be read back, so no two contents have one image. (The chapter lists no Load.)
func TestP7Image(t *testing.T) {
	for seed := range int64(40) {
		r := rand.New(rand.NewSource(seed))
		content := anyPlain(r, r.Intn(60), 1+r.Intn(3), 1+r.Intn(8))
		image := content.model(t).Image()
		read := plain{}
		for at := 2; at < len(image); at += 9 {
			x := point{}
			for i := range x {
				x[i] = int(image[at+2*i])*256 + int(image[at+2*i+1]) - 1000
			}
			read[api.Row{X: x, Label: int(image[at+6])}] = int(image[at+7])*256 + int(image[at+8])
		}
		read.check(t, content.model(t))
		if len(read) != int(image[0])*256+int(image[1]) {
			t.Errorf("the image tells of %d rows, and has %d", image[1], len(read))
		}
	}
}

// TestT1OneShape lets models learn and unlearn, and holds them against their content after each call.
func TestT1OneShape(t *testing.T) {
	for seed := range int64(40) {
		r := rand.New(rand.NewSource(seed))
		most, labels := []int{0, 1, 2, 1000}[seed%4], 1+r.Intn(8)
		m, content := learn.New(), plain{}
		for range 80 {
			next := anyRow(r, most, labels)
			if rows := content.different(); len(rows) > 0 && r.Intn(2) == 0 {
				next = rows[r.Intn(len(rows))]
			}
			if r.Intn(5) < 3 {
				learnRow(t, m, next)
				content[next]++
			} else if content[next] == 0 {
				if e := m.Unlearn(next); e != api.ErrNone {
					t.Fatalf("Unlearn(%v): %d, expected ErrNone", next, e)
				}
			} else {
				unlearnRow(t, m, next)
				if content[next]--; content[next] == 0 {
					delete(content, next)
				}
			}
			content.check(t, m)
		}
		content.checkLines(t, m)
		if m.Len() > 0 {
			content.checkTree(t, m, 6, 1)
		}
		content.checkAt(t, m, anyPoint(r, most), 3)
	}
}

// TestT2Answers holds all that models tell against their content: few numbers and labels make many equal ones, great ones make great terms.
func TestT2Answers(t *testing.T) {
	for seed := range int64(200) {
		r := rand.New(rand.NewSource(seed))
		most, labels := []int{1, 2, 4, 1000}[seed%4], 1+r.Intn(8)
		content := anyPlain(r, 1+r.Intn(30), most, labels)
		m := content.model(t)
		content.check(t, m)
		content.checkLines(t, m)
		content.checkTree(t, m, r.Intn(7), 1+r.Intn(6))
		content.checkTree(t, m, 6, 1)
		for range 10 {
			content.checkAt(t, m, anyPoint(r, most), 1+r.Intn(35))
		}
		if t.Failed() {
			t.Fatalf("with the rows %v", content.rows())
		}
	}
}

// TestT2FullModels does so with MaxRows rows.
func TestT2FullModels(t *testing.T) {
	for seed, most := range []int{1, 12, 1000} {
		r := rand.New(rand.NewSource(int64(seed)))
		content := anyPlain(r, api.MaxRows, most, api.Labels)
		m := content.model(t)
		content.check(t, m)
		content.checkLines(t, m)
		content.checkTree(t, m, 2, 1)
		for range 5 {
			content.checkAt(t, m, anyPoint(r, most), 1+r.Intn(60))
		}
	}
}

// TestT4Forget: a model that unlearned rows is one that never had them, in whatever order rows came.
func TestT4Forget(t *testing.T) {
	for seed := range int64(40) {
		r := rand.New(rand.NewSource(seed))
		content, gone := anyPlain(r, 1+r.Intn(12), 3, 4), anyPlain(r, 1+r.Intn(12), 3, 4)
		never := content.model(t)
		m := learn.New()
		all := append(content.rows(), gone.rows()...)
		r.Shuffle(len(all), func(i, j int) { all[i], all[j] = all[j], all[i] })
		for _, next := range all {
			learnRow(t, m, next)
		}
		for _, next := range gone.rows() {
			unlearnRow(t, m, next)
		}
		if !bytes.Equal(m.Image(), never.Image()) || m.Counts() != never.Counts() || m.Len() != never.Len() {
			t.Fatalf("a model that forgot tells something else than one that never had the rows")
		}
		content.checkLines(t, m)
		content.checkTree(t, m, 6, 1)
		content.checkAt(t, m, anyPoint(r, 3), 1+r.Intn(9))
	}
}

// TestT4FullModels: a full model forgets, too.
func TestT4FullModels(t *testing.T) {
	r := rand.New(rand.NewSource(7))
	kept := anyPlain(r, 20, 5, 8)
	m := kept.model(t)
	var more []api.Row
	for m.Len() < api.MaxRows {
		more = append(more, anyRow(r, 5, 8))
		learnRow(t, m, more[len(more)-1])
	}
	if e := m.Learn(row(0, 0, 0, 0)); e != api.ErrFull {
		t.Fatalf("Learn by a full model: %d", e)
	}
	for _, next := range more {
		unlearnRow(t, m, next)
	}
	kept.check(t, m)
	kept.checkLines(t, m)
	kept.checkTree(t, m, 6, 1)
}

func TestP1NilAndZero(t *testing.T) {
	for name, m := range map[string]*learn.Model{"nil": nil, "zero": {}} {
		for _, r := range slices.Concat(beyond(), atBounds(), []api.Row{{}}) {
			if e := m.Learn(r); e != api.ErrArg {
				t.Errorf("%s: Learn(%v): %d, expected ErrArg", name, r, e)
			}
			if e := m.Unlearn(r); e != api.ErrArg {
				t.Errorf("%s: Unlearn(%v): %d, expected ErrArg", name, r, e)
			}
		}
		if m.Len() != 0 || m.Counts() != [api.Labels]int{} || len(m.Image()) != 0 {
			t.Errorf("%s: %d rows, %v, the image %v", name, m.Len(), m.Counts(), m.Image())
		}
		checkWithoutRows(t, m)
	}
}

// checkWithoutRows holds the questions to a model without rows against ErrNone, behind ErrArg.
func checkWithoutRows(t *testing.T, m *learn.Model) {
	t.Helper()
	for by := -1; by <= api.Columns; by++ {
		for of := -1; of <= api.Columns; of++ {
			want := api.ErrArg
			if by >= 0 && by < api.Columns && of >= 0 && of < api.Columns {
				want = api.ErrNone
			}
			checkLine(t, m, by, of, api.Frac{}, api.Frac{}, want)
		}
	}
	for levels := -1; levels <= 7; levels++ {
		for least := -1; least <= 2; least++ {
			want := api.ErrArg
			if levels >= 0 && levels <= 6 && least >= 1 {
				want = api.ErrNone
			}
			if got, e := m.Tree(levels, least); e != want || len(got) != 0 {
				t.Errorf("Tree(%d, %d): %v, %d, expected %d", levels, least, got, e, want)
			}
		}
	}
	for _, r := range beyond()[5:] {
		checkVote(t, m, r.X, 1, 0, api.ErrArg)
		checkGuess(t, m, r.X, 0, api.ErrArg)
	}
	checkVote(t, m, point{}, 0, 0, api.ErrArg)
	checkVote(t, m, point{}, 1, 0, api.ErrNone)
	checkGuess(t, m, point{1000, -1000, 0}, 0, api.ErrNone)
}

// TestP2WithoutRows: a model without rows has the errors of one that is missing, and so has one that unlearned all it had.
func TestP2WithoutRows(t *testing.T) {
	checkWithoutRows(t, learn.New())
	m := three().model(t)
	for _, r := range three().rows() {
		unlearnRow(t, m, r)
	}
	checkWithoutRows(t, m)
	plain{}.check(t, m)
}

// TestP1Copied: a Model that a caller copied is the same model still.
func TestP1Copied(t *testing.T) {
	m := plainOf(row(1, 1, 1, 1)).model(t)
	copied := *m
	learnRow(t, &copied, row(2, 2, 2, 2))
	unlearnRow(t, m, row(1, 1, 1, 1))
	plainOf(row(2, 2, 2, 2)).check(t, m)
	plainOf(row(2, 2, 2, 2)).check(t, &copied)
}

// TestP4Apart: models know nothing of each other.
func TestP4Apart(t *testing.T) {
	a, b := learn.New(), learn.New()
	learnRow(t, a, row(1, 1, 1, 1))
	plain{}.check(t, b)
	learnRow(t, b, row(2, 2, 2, 2))
	plainOf(row(1, 1, 1, 1)).check(t, a)
	plainOf(row(2, 2, 2, 2)).check(t, b)
}

// TestP3Memory: results may be written over, and questions change nothing.
func TestP3Memory(t *testing.T) {
	content := anyPlain(rand.New(rand.NewSource(3)), 12, 2, 3)
	m := content.model(t)
	for range 2 {
		image := m.Image()
		clear(image)
		_ = append(image, 77)
		branches, _ := m.Tree(6, 1)
		clear(branches)
		_ = append(branches, api.Branch{Rows: 77})
		counts := m.Counts()
		clear(counts[:])
		content.check(t, m)
		content.checkTree(t, m, 6, 1)
		content.checkAt(t, m, point{1, -1, 2}, 5)
		content.checkLines(t, m)
	}
}
