package codec_test

import (
	"math/rand"
	"slices"
	"strings"
	"testing"

	"robotics/api"
	"robotics/codec"
)

// P11.3 and P11.4

// listedFields checks that Fields returns the numbers, and Raw the contents.
func listedFields(t *testing.T, b string, numbers []int, contents []string) {
	t.Helper()
	if got, e := codec.Fields(b); !slices.Equal(got, numbers) || e != api.OK {
		t.Errorf("Fields(%.100x) = %v, %v, want %v", b, got, e, numbers)
	}
	for i, number := range numbers {
		if got, ok := codec.Raw(b, number); got != contents[i] || !ok {
			t.Errorf("Raw(%.100x, %d) = %.100x, %v, want %.100x", b, number, got, ok, contents[i])
		}
	}
	for _, number := range otherNumbers() {
		if got, ok := codec.Raw(b, number); !slices.Contains(numbers, number) && (got != "" || ok) {
			t.Errorf("Raw(%.100x, %d) = %.100x, %v", b, number, got, ok)
		}
	}
}

// otherNumbers returns numbers of which most sequences have few.
func otherNumbers() []int {
	return []int{least, -1, 0, 1, 2, 3, 4, 5, 6, 127, 128, 1<<31 - 1, 1 << 31, 1<<32 + 1, most}
}

// noFields checks that Fields returns the error, and Raw nothing.
func noFields(t *testing.T, b string, want api.Errno) {
	t.Helper()
	if got, e := codec.Fields(b); len(got) != 0 || e != want {
		t.Errorf("Fields(%.100x) = %v, %v, want %v", b, got, e, want)
	}
	for _, number := range otherNumbers() {
		if got, ok := codec.Raw(b, number); got != "" || ok {
			t.Errorf("Raw(%.100x, %d) = %.100x, %v", b, number, got, ok)
		}
	}
}

func TestFieldsOfSequences(t *testing.T) {
	listedFields(t, "", nil, nil)
	listedFields(t, bytes("01 01 03 02 01 01"), []int{1, 2}, []string{"\x03", "\x01"})
	listedFields(t, bytes("01 00"), []int{1}, []string{""})
	listedFields(t, bytes("01 00 02 00 03 01 00"), []int{1, 2, 3}, []string{"", "", "\x00"})
	listedFields(t, bytes("7f 02 80 00 80 01 01 ff"), []int{127, 128}, []string{"\x80\x00", "\xff"})
	listedFields(t, bytes("03 01 00 ff ff ff ff 07 00"), []int{3, 1<<31 - 1}, []string{"\x00", ""})
	listedFields(t, bytes("ff ff ff ff 07 02 61 62"), []int{1<<31 - 1}, []string{"ab"})
	long := strings.Repeat("a", 128)
	listedFields(t, fieldOf(1, long)+fieldOf(6, long+long), []int{1, 6}, []string{long, long + long})
}

// A content may be one that no field accepts, or a sequence of its own.
func TestFieldsDoNotExamineContents(t *testing.T) {
	for _, x := range faults() {
		content := bytes(x.content)
		listedFields(t, fieldOf(1, content)+fieldOf(4, "")+fieldOf(9, content), []int{1, 4, 9}, []string{content, "", content})
	}
	for _, x := range samples() {
		content := bytes(x.content)
		listedFields(t, fieldOf(2, content), []int{2}, []string{content})
	}
}

func TestFieldsOfBrokenSequences(t *testing.T) {
	for _, x := range brokenSequences() {
		noFields(t, bytes(x.content), x.e)
		// Contents of fields that Decode refuses do not matter.
		noFields(t, bytes("01 01 02 02 00")+bytes(x.content), x.e)
		if e := x.e; e == api.ErrRange || x.content[:2] != "00" {
			listedFields(t, fieldOf(1, bytes(x.content)), []int{1}, []string{bytes(x.content)})
		}
	}
}

// Of several errors, the one further to the left is returned, and of one field
// that of its number before that of its length.
func TestOrderOfErrorsOfFields(t *testing.T) {
	for _, x := range []struct {
		b string
		e api.Errno
	}{
		{"00 80", api.ErrFormat},
		{"00 05", api.ErrFormat},
		{"80 80 80 80 08 80 00", api.ErrRange},
		{"80 80 80 80 08 80", api.ErrRange},
		{"05 00 05 80", api.ErrFormat},
		{"05 00 04 7f", api.ErrFormat},
		{"05 00 06 7f 00", api.ErrShort},
		{"05 7f 00 00", api.ErrShort},
		{"05 01 00 00 00 80 80 80 80 08 00", api.ErrFormat},
		{"05 01 00 80 80 80 80 08 00 00 00", api.ErrRange},
		{"05 80 00 80 80 80 80 08", api.ErrFormat},
		{"80 00 05", api.ErrFormat},
		{"05 02 00 00 07 03 00", api.ErrShort},
	} {
		noFields(t, bytes(x.b), x.e)
	}
}

func TestFieldsOfLongSequences(t *testing.T) {
	for count := 1990; count <= 2010; count++ {
		content := strings.Repeat("\xff", count-6)
		b := fieldOf(1, content) + fieldOf(2, "b")
		if len(b) != count {
			t.Fatalf("%d bytes", len(b))
		}
		if count > 2000 {
			noFields(t, b, api.ErrLong)
			continue
		}
		listedFields(t, b, []int{1, 2}, []string{content, "b"})
	}
	for _, first := range []string{"00", "80 00", "80 80 80 80 08", "05 7f"} {
		noFields(t, bytes(first)+strings.Repeat("\x00", 2000), api.ErrLong)
		noFields(t, bytes(first)+strings.Repeat("\x00", 1<<20), api.ErrLong)
	}
	many, numbers, contents := "", []int{}, []string{}
	for number := range 700 {
		if number > 0 && len(many) < 1998 {
			many += fieldOf(number, "")
			numbers, contents = append(numbers, number), append(contents, "")
		}
	}
	listedFields(t, many, numbers, contents)
}

// forSequences calls check with sequences of fields, which may have faults.
func forSequences(check func(b string)) {
	forBytes(func(_ api.Schema, _, b string) { check(b) })
	r := rand.New(rand.NewSource(3))
	for range 20000 {
		b := extraFields(r, api.Struct{}, pick(r, 0, 0, 100, 1<<31-3), 1<<31)
		check(b)
		check(changed(r, b))
		check(changed(r, b) + changed(r, b))
		check(randomBytes(r, r.Intn(10)))
	}
}

func TestFields(t *testing.T) {
	counts := map[api.Errno]int{}
	forSequences(func(b string) {
		numbers, contents, e := fields(b)
		counts[e]++
		if e != api.OK {
			noFields(t, b, e)
			return
		}
		listedFields(t, b, numbers, contents)
	})
	for _, e := range []api.Errno{api.OK, api.ErrShort, api.ErrFormat, api.ErrRange, api.ErrLong} {
		if counts[e] < 20 {
			t.Errorf("the error %v only %d times: %v", e, counts[e], counts)
		}
	}
}
