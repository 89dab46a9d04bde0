package content_test

import (
	"fmt"
	"math/rand"
	"slices"
	"strings"
	"testing"

	"lading/api"
	"lading/content"
)

// The model has the words of the document: each element is compared with each other one.

func modelSize(list []string) int {
	n := 0
	for i := range list {
		n += len(list[i])
	}
	return n
}

func modelRight(list []string) bool {
	for i := range list {
		for k := range i {
			if list[i] == list[k] {
				return false
			}
		}
	}
	return modelSize(list) <= 1048576
}

func modelPrint(list []string, s string) int {
	for i, x := range list {
		if x == s {
			return i
		}
	}
	return -1
}

func modelAdd(list []string, s string) ([]string, int, api.Errno) {
	if !modelRight(list) {
		return nil, 0, api.ErrArg
	}
	var l []string
	l = append(l, list...)
	if modelPrint(l, s) < 0 {
		l = append(l, s)
	}
	if modelSize(l) > 1048576 {
		return nil, 0, api.ErrFull
	}
	return l, modelPrint(l, s), api.OK
}

func modelTexts(list []string, prints []int) ([]string, api.Errno) {
	var l []string
	for _, n := range prints {
		if n < 0 || n > len(list)-1 {
			return nil, api.ErrNone
		}
		l = append(l, list[n])
	}
	return l, api.OK
}

// modelJoin adds the contents of b one by one.
func modelJoin(a, b []string) ([]string, []int, api.Errno) {
	if !modelRight(a) || !modelRight(b) {
		return nil, nil, api.ErrArg
	}
	var prints []int
	for _, s := range b {
		l, n, e := modelAdd(a, s)
		if e != api.OK {
			return nil, nil, e
		}
		a, prints = l, append(prints, n)
	}
	return a, prints, api.OK
}

// differs returns what some call with these arguments returns that it must not.
func differs(a, b []string, s string, prints []int) string {
	if is, want := content.Right(a), modelRight(a); is != want {
		return fmt.Sprintf("Right is %v, not %v", is, want)
	}
	if is, want := content.Print(a, s), modelPrint(a, s); is != want {
		return fmt.Sprintf("Print is %d, not %d", is, want)
	}
	for _, n := range prints {
		want, e := modelTexts(a, []int{n})
		if s, ok := content.Text(a, n); ok != (e == api.OK) || s != strings.Join(want, "") {
			return fmt.Sprintf("Text(%d) is %.60q, %v, not %.60q", n, s, ok, want)
		}
	}
	texts, e := content.Texts(a, prints)
	if want, we := modelTexts(a, prints); !slices.Equal(texts, want) || e != we {
		return fmt.Sprintf("Texts is %.200q, %d, not %.200q, %d", texts, e, want, we)
	}
	l, n, e := content.Add(a, s)
	if want, wn, we := modelAdd(a, s); !slices.Equal(l, want) || n != wn || e != we {
		return fmt.Sprintf("Add is %.200q, %d, %d, not %.200q, %d, %d", l, n, e, want, wn, we)
	}
	l, p, e := content.Join(a, b)
	if want, wp, we := modelJoin(a, b); !slices.Equal(l, want) || !slices.Equal(p, wp) || e != we {
		return fmt.Sprintf("Join is %.200q, %v, %d, not %.200q, %v, %d", l, p, e, want, wp, we)
	}
	return ""
}

// breaks returns which property does not hold for these right lists.
func breaks(a, b []string, s string) string {
	for n, x := range a { // P4.5
		if content.Print(a, x) != n {
			return fmt.Sprintf("the Print of the content %d is %d", n, content.Print(a, x))
		}
		if text, ok := content.Text(a, content.Print(a, x)); text != x || !ok {
			return fmt.Sprintf("the Text of the Print of %.60q is %.60q", x, text)
		}
	}
	added, n, e := content.Add(a, s)
	if e == api.OK {
		if !content.Right(added) || !slices.Equal(added[:len(a)], a) || content.Print(added, s) != n {
			return fmt.Sprintf("Add changes a print, or makes the list wrong: %.200q", added)
		}
		again, k, e := content.Add(added, s)
		if !slices.Equal(again, added) || k != n || e != api.OK {
			return fmt.Sprintf("adding it again returns %.200q, %d, %d", again, k, e)
		}
	}
	self, prints, e := content.Join(a, a) // P4.6
	if !slices.Equal(self, a) || e != api.OK {
		return fmt.Sprintf("joined with itself: %.200q, %d", self, e)
	}
	for i, n := range prints {
		if n != i {
			return fmt.Sprintf("joined with itself: %v", prints)
		}
	}
	joined, prints, e := content.Join(a, b)
	if e != api.OK {
		return ""
	}
	if texts, e := content.Texts(joined, prints); !content.Right(joined) || !slices.Equal(joined[:len(a)], a) || !slices.Equal(texts, b) || e != api.OK {
		return fmt.Sprintf("joined: %.200q, %v", joined, prints)
	}
	for _, l := range [][]string{b, a, joined} {
		if again, _, e := content.Join(joined, l); !slices.Equal(again, joined) || e != api.OK {
			return fmt.Sprintf("joined again: %.200q, %d, not %.200q", again, e, joined)
		}
	}
	return ""
}

// check compares calls with the model, and requires the properties.
func check(t *testing.T, a, b []string, s string, prints []int) {
	t.Helper()
	why := differs(a, b, s, prints)
	if why == "" && modelRight(a) && modelRight(b) {
		why = breaks(a, b, s)
	}
	if why != "" {
		t.Fatalf("lists %.300q, %.300q, %.60q, %v: %s", a, b, s, prints, why)
	}
}

// someContent returns a content, of which there are few.
func someContent(pick func(n int) int) string {
	b := make([]byte, pick(4))
	for i := range b {
		b[i] = "ab\x00\xff"[pick(4)]
	}
	return string(b)
}

// someList returns a list, which is often right.
func someList(pick func(n int) int) []string {
	var l []string
	for range pick(8) {
		if s := someContent(pick); pick(10) == 0 || !slices.Contains(l, s) {
			l = append(l, s)
		}
	}
	if pick(4) == 0 { // so that it is nearly full, or a little too large
		n := content.Most - modelSize(l) - 3 + pick(6)
		l = slices.Insert(l, pick(len(l)+1), strings.Repeat("ab"[pick(2):][:1], n))
	}
	return l
}

// checkSome checks lists that pick chooses.
func checkSome(t *testing.T, pick func(n int) int) {
	t.Helper()
	a, b, s := someList(pick), someList(pick), someContent(pick)
	if len(a) > 0 && pick(8) == 0 {
		s = a[pick(len(a))]
	}
	prints := make([]int, pick(5))
	for i := range prints {
		prints[i] = pick(len(a)+1) - pick(2)*pick(2)
	}
	check(t, a, b, s, prints)
}

// P4.1 to P4.3, P4.5 and P4.6 for any lists.
func TestAnyLists(t *testing.T) {
	r := rand.New(rand.NewSource(4))
	for range 5000 {
		checkSome(t, r.Intn)
	}
}

// P4.1 to P4.3, P4.5 and P4.6 for all pairs of lists with up to three of three contents.
func TestAllShortLists(t *testing.T) {
	lists := [][]string{nil}
	for i := 0; len(lists[i]) < 3; i++ {
		for _, s := range []string{"", "a", "ab"} {
			lists = append(lists, append(slices.Clone(lists[i]), s))
		}
	}
	for _, a := range lists {
		for _, b := range lists {
			for _, s := range []string{"", "a", "ab", "b"} {
				check(t, a, b, s, []int{len(b) - 1, 0, 1, len(a) - 1})
			}
		}
	}
}

// P4.5 and P4.6 for contents that are added one after the other, again and again, and joined in another order.
func TestGrowing(t *testing.T) {
	r := rand.New(rand.NewSource(5))
	var list []string
	at := map[string]int{}
	for range 600 {
		s := strings.Repeat(someContent(r.Intn), 1+r.Intn(3))
		l, n, e := content.Add(list, s)
		if was, there := at[s]; e != api.OK || there && (n != was || len(l) != len(list)) || !there && n != len(list) {
			t.Fatalf("Add of %q returns %d, %d", s, n, e)
		}
		list, at[s] = l, n
		for s, n := range at {
			if content.Print(list, s) != n {
				t.Fatalf("the print of %q changed from %d to %d", s, n, content.Print(list, s))
			}
		}
		if k := r.Intn(len(list) + 1); content.Right(list) {
			if l, _, e := content.Join(list, slices.Concat(list[k:], list[:k])); !slices.Equal(l, list) || e != api.OK {
				t.Fatalf("joined in another order: %q, %d", l, e)
			}
		}
	}
}

// P4.1 to P4.6, and P1, for lists that a fuzzer chooses: the contents are separated by line ends.
func FuzzLists(f *testing.F) {
	f.Add("a\nb", "c\na", "c", 1, 0)
	f.Add("ab\n", "", "", 1, 2)
	f.Add("a\na", "b\nb", "a", -1, 1)
	f.Fuzz(func(t *testing.T, a, b, s string, n, k int) {
		check(t, strings.Split(a, "\n"), strings.Split(b, "\n"), s, []int{n, k, n})
	})
}

// P1: large arguments end in time.
func TestLarge(t *testing.T) {
	huge := strings.Repeat("x", 1<<24)
	same := slices.Repeat([]string{huge}, 100)
	if content.Right(same) || content.Right([]string{huge}) {
		t.Error("too many bytes are right")
	}
	if _, _, e := content.Add(same, huge); e != api.ErrArg {
		t.Errorf("Add returns %d", e)
	}
	if _, _, e := content.Join(same, same); e != api.ErrArg {
		t.Errorf("Join returns %d", e)
	}
	if l, n, e := content.Add([]string{"a"}, huge); len(l) != 0 || n != 0 || e != api.ErrFull {
		t.Errorf("Add returns %d contents, %d, %d", len(l), n, e)
	}
	many := slices.Repeat([]string{"a", ""}, 1000000)
	if content.Right(many) || content.Print(many, "") != 1 || content.Print(many, "b") != -1 {
		t.Error("a long list is not searched")
	}
}
