package certify_test

import (
	"math/rand/v2"
	"slices"
	"strings"
	"testing"

	"wordset/api"
	"wordset/certify"
	"wordset/testkit"
)

const text = "certificate 2\npair 0 0\npair 1\n"

func TestExamplesOfText(t *testing.T) {
	c := cert([]int{0, 0}, []int{1})
	wantPrint(t, c, text, api.OK)
	wantParse(t, text, c, api.Problem{})
	wrongAt(t, text[:len(text)-1], 23)
	wrongAt(t, text+" ", 30)
	wrongAt(t, strings.Replace(text, "2", "02", 1), 0)
	wrongAt(t, strings.Replace(text, "0 0", "0 1 1", 1), 14)
	wrongAt(t, "", 0)
}

// TestLines: a line that may not stand there is told by its beginning, one that is missing by the text's end.
func TestLines(t *testing.T) {
	wantParse(t, "certificate 0\n", api.Cert{}, api.Problem{})
	wantParse(t, "certificate 1\npair 4095 0 4095\n", cert([]int{4095, 0, 4095}), api.Problem{})
	for _, head := range []string{"certificate", "certificate ", "certificate 0", "certificate\n", "certificate \n", "certificate -1\n", "certificate +1\n", "certificate 00\n", "certificate 01\n", "certificate 1 \n", "certificate 1\r\n", " certificate 1\n", "certificate  1\n", "certificate\t1\n", "certificates 1\n", "Certificate 1\n", "certificate 0x1\n", "certificate 1_0\n", "certificate 4097\n", "certificate 9999\n", "certificate 10000\n", "certificate 4294967297\n", "certificate 18446744073709551617\n", "certificate 18446744073709551616\n", "certificate 1e0\n", "\ncertificate 1\n", "\n", "pair 0\n", "certificate \xff\n", "certificate \u0661\n"} {
		wrongAt(t, head, 0)
		wrongAt(t, head+"pair 0\n", 0)
	}
	for _, line := range []string{"", "\n", "pair", "pair ", "pair 0", "pair\n", "pair \n", "pair 0 \n", "pair  0\n", "pair 0  1\n", "pair 0\t1\n", " pair 0\n", "pair 0 1", "pair 0 1\r\n", "pair 00\n", "pair 01\n", "pair 0 00\n", "pair 0 01\n", "pair -1\n", "pair 0 -1\n", "pair +0\n", "pair 4096\n", "pair 0 4096\n", "pair 40950\n", "pair 0 1 1\n", "pair 0 2 1\n", "pair 0 10 9\n", "pair 0 0 1 0\n", "pair 18446744073709551616\n", "pair 0 18446744073709551616\n", "Pair 0\n", "pairs 0\n", "pair 0 x\n", "pair 0x\n", "certificate 1\n", "pair 0\x00\n", "pair 0,1\n"} {
		wrongAt(t, "certificate 1\n"+line, 14)
		if line != "" {
			wrongAt(t, "certificate 2\n"+line+"pair 0\n", 14)
		}
		wrongAt(t, "certificate 3\npair 7 8 9\n"+line, 25)
		if line != "" {
			wrongAt(t, "certificate 0\n"+line, 14)
			wrongAt(t, "certificate 1\npair 7 8 9\n"+line, 25)
		}
	}
	wrongAt(t, "certificate 0\npair 0\n", 14)
	wrongAt(t, "certificate 4096\n", 17)
	wrongAt(t, "certificate 1\npair 0\npair 0\n", 21)
}

// printable draws a certificate that may be.
func printable(d testkit.Draw) api.Cert {
	var c api.Cert
	bounds := []int{1, 2, 11, 101, 1001, 4096}
	for range d(4) {
		bound := bounds[d(len(bounds))]
		set := slices.Compact(slices.Sorted(slices.Values(d.List(bound, d(4)))))
		c.Pairs = append(c.Pairs, pair(d(bound), set...))
	}
	return c
}

// TestThereAndBack: what was printed is read as what was printed, and printed again it is the same text.
func TestThereAndBack(t *testing.T) {
	d := testkit.Draw(rand.New(rand.NewPCG(18, 3)).IntN)
	for range 20000 {
		c := printable(d)
		wantPrint(t, c, printed(c), api.OK)
		wantParse(t, printed(c), c, api.Problem{})
	}
	for n := range 4096 {
		c := cert([]int{n, 4095 - n})
		wantPrint(t, c, printed(c), api.OK)
		wantParse(t, printed(c), c, api.Problem{})
	}
}

// altered gives a text with some bytes taken out, put in, changed, or its end cut off.
func altered(d testkit.Draw, text string) string {
	const bytes = "0123456789 \n\t\rpairctfe-+\x00\xff"
	for range 1 + d(2) {
		at := d(len(text) + 1)
		c := bytes[d(len(bytes)):][:1]
		switch d(5) {
		case 0:
			text = text[:at]
		case 1:
			text = text[:at] + c + text[at:]
		case 2:
			text = text[:at] + text[min(at+1, len(text)):]
		case 3:
			text = text[:at] + c + text[min(at+1, len(text)):]
		case 4:
			lines := strings.SplitAfter(text, "\n")
			lines = slices.Insert(lines, d(len(lines)+1), lines[d(len(lines))])
			text = strings.Join(lines, "")
		}
	}
	return text
}

func TestAltered(t *testing.T) {
	d := testkit.Draw(rand.New(rand.NewPCG(18, 4)).IntN)
	read, refused := 0, 0
	for range 100000 {
		s := altered(d, printed(printable(d)))
		c, p := parsed(s)
		wantParse(t, s, c, p)
		if p.Code != api.OK {
			refused++
			continue
		}
		read++
		wantPrint(t, c, s, api.OK)
	}
	if read < 1000 || refused < 1000 {
		t.Errorf("P18.5: read were %d, refused %d", read, refused)
	}
}

// TestEveryByte: at each place of a text each byte, instead of what stands there and ahead of it, and each beginning of the text.
func TestEveryByte(t *testing.T) {
	const text = "certificate 3\npair 10 0 9 10\npair 0\npair 4095 4094\n"
	for at := range len(text) + 1 {
		for b := range 256 {
			for _, s := range []string{text[:at] + string([]byte{byte(b)}) + text[at:], text[:at] + string([]byte{byte(b)}) + text[min(at+1, len(text)):]} {
				c, p := parsed(s)
				wantParse(t, s, c, p)
			}
		}
		c, p := parsed(text[:at])
		wantParse(t, text[:at], c, p)
	}
}

// TestShort: all lines of a few pieces, as the first line and as the second.
func TestShort(t *testing.T) {
	pieces := []string{"pair", " ", "0", "1", "2", "\n"}
	for _, w := range testkit.Words(len(pieces), 6) {
		line := ""
		for _, k := range w {
			line += pieces[k]
		}
		for _, s := range []string{"certificate" + line, "certificate 1\n" + line} {
			c, p := parsed(s)
			wantParse(t, s, c, p)
		}
	}
}

// TestMayNotBePrinted: a number out of its range, or a set that does not rise, wherever it stands, or too many pairs.
func TestMayNotBePrinted(t *testing.T) {
	for _, wrong := range [][]int{{-1}, {4096}, {lowest}, {greatest}, {0, -1}, {0, 4096}, {0, lowest}, {0, greatest}, {0, 1, 1}, {0, 2, 1}, {0, 0, 1, 0}, {0, 1, 2, 4096}, {0, -1, 0}} {
		wantPrint(t, cert(wrong), "", api.ErrCert)
		wantPrint(t, cert([]int{0}, wrong), "", api.ErrCert)
		wantPrint(t, cert(wrong, []int{0}), "", api.ErrCert)
	}
	wantPrint(t, api.Cert{Pairs: make([]api.Pair, 4097)}, "", api.ErrCert)
	wantPrint(t, api.Cert{Pairs: make([]api.Pair, 100000)}, "", api.ErrCert)
}

// TestLargeText: as many pairs as may be, some with all numbers that may be.
func TestLargeText(t *testing.T) {
	c := api.Cert{Pairs: make([]api.Pair, 4096)}
	want := "certificate 4096\n" + strings.Repeat("pair 0\n", 4096)
	wantPrint(t, c, want, api.OK)
	wantParse(t, want, c, api.Problem{})
	wrongAt(t, want[:len(want)-1], len(want)-7)
	wrongAt(t, want[:len(want)-7], len(want)-7)
	wrongAt(t, want+"pair 0\n", len(want))
	for i := range 100 {
		c.Pairs[i*40] = pair(4095, testkit.Upto(4096)...)
	}
	s, e := certify.Print(c)
	if e != api.OK || len(s) != len(want)+100*(4096*5-1110+3) {
		t.Fatalf("P18.4: a text of %d bytes, %d", len(s), e)
	}
	wantParse(t, s, c, api.Problem{})
	wrongAt(t, "certificate "+strings.Repeat("0", 1<<20), 0)
	wrongAt(t, "certificate "+strings.Repeat("1", 1<<20)+"\n", 0)
	wrongAt(t, "certificate 1\npair 0"+strings.Repeat(" 0", 1<<20)+"\n", 14)
	wrongAt(t, "certificate 1\npair 0 "+strings.Repeat("9", 1<<20)+"\n", 14)
}
