package tests

import (
	"slices"
	"strconv"
	"strings"
	"testing"

	"loop.example/helpersinreach/impl"
)

// answered returns the answers of RunDesk to lines, of which there must be one to each.
func answered(t *testing.T, lines []string) []string {
	t.Helper()
	out := impl.RunDesk(lines)
	answers := strings.SplitAfter(out, "\n")
	if answers[len(answers)-1] != "" || len(answers) != len(lines)+1 {
		t.Fatalf("RunDesk(%q) = %q", lines, out)
	}
	for i := range answers {
		answers[i] = strings.TrimSuffix(answers[i], "\n")
	}
	return answers[:len(lines)]
}

// checkAnswer checks the answer to a line behind one of homes, and that the homes stay the same behind it.
func checkAnswer(t *testing.T, line string, want string) {
	t.Helper()
	lines := []string{"homes 1,2,4,10,11", line, "sum 1"}
	if got := answered(t, lines); !slices.Equal(got, []string{"done", want, "18"}) {
		t.Errorf("RunDesk(%q) = %q, not %q", lines, got, want)
	}
}

func TestDeskConstants(t *testing.T) {
	if impl.MaxDesk != 20 {
		t.Error("limit of a desk")
	}
}

func TestDeskByHand(t *testing.T) {
	for line, want := range map[string]string{
		"sum 1": "18", "sum 2": "4", "sum 3": "2", "sum 4": "1", "far 1": "5", "far 2": "2", "far 3": "1", "far 4": "1",
		"near 0": "5", "near 1": "3", "near 2": "2", "near 4": "2", "near 5": "1", "near 9": "1", "near 10": "1", "near 49": "1", "near 50": "1",
		"sweep 1": "0", "sweep 2": "0,1", "sweep 3": "0,1,2,1", "sweep 7": "0,1,2,3,4,5,6,5,4,3,2,1", "sweep 8": "0,1,2,3,4,5,6,7,6,5,4,3,2,1",
		"rest 1": "1", "rest 2": "3", "rest 3": "1", "rest 4": "3", "rest 5": "1", "rest 6": "3", "rest 7": "1", "rest 8": "3", "rest 9": "1",
		"homes 1,2,4,10,11": "done",
	} {
		checkAnswer(t, line, want)
	}
}

// Homes are none at first, become others, and none again.
func TestHomesAtTheDesk(t *testing.T) {
	lines := []string{"sum 1", "far 1", "near 0", "homes 7", "sum 1", "near 0", "homes 0,50", "sum 1", "far 1", "near 24", "homes 3,3,3,50,50", "near 0", "homes -", "sum 4", "far 4", "near 50", "homes 0,0,0,0,0,0,0,0,0,0", "near 0", "homes 9,10", "sum 1"}
	want := []string{"0", "0", "0", "done", "0", "1", "done", "50", "25", "2", "done", "2", "done", "0", "0", "0", "done", "1", "done", "1"}
	if got := answered(t, lines); !slices.Equal(got, want) {
		t.Errorf("RunDesk(%q) = %q", lines, got)
	}
}

// Without homes all that is asked about them is 0, but other numbers are wrong as well.
func TestNoHomesAtTheDesk(t *testing.T) {
	for _, first := range [][]string{nil, {"homes -"}, {"homes 1,5", "homes -"}, {"homes", "homes ", "homes 5,1"}} {
		for _, word := range []string{"sum", "far", "near"} {
			for number := -2; number <= impl.MaxPlace+2; number++ {
				want := "wrong"
				if limits := limitsByWord[word]; number >= limits[0] && number <= limits[1] {
					want = "0"
				}
				lines := append(slices.Clone(first), word+" "+strconv.Itoa(number))
				if got := answered(t, lines); got[len(first)] != want {
					t.Errorf("RunDesk(%q) = %q", lines, got)
				}
			}
		}
	}
}

func TestWrongLinesByHand(t *testing.T) {
	for _, behind := range []string{
		// No number, and two of them.
		"", " ", " -", " x", " ,", " one", " 1,2", " 1 2", " 1 1", " 1,", " ,1", " 1,1",
		// Spaces and other bytes around it.
		"  1", " 1 ", "  ", " 1\n", " 1\r", " 1\t", " \t1", " \n1", " 1\x00", " \xff", " 1\xff", " \u00a01", " 1;", " 1.",
		// Numbers written in other ways, or that are not whole.
		" 01", " 001", " +1", " -0", " --1", " +0", " 00", " 0x1", " 0b1", " 0o1", " 1_0", " 1e0", " 1.0", " 1/1", " \u0661", " \uff11", " I",
		// Numbers that are none of a command, also far away.
		" -1", " -2", " 51", " 52", " 99", " 100", " 1000", " 4294967297", " 9223372036854775807", " 9223372036854775808", " 18446744073709551616", " 18446744073709551617", " -9223372036854775808", " -18446744073709551615", " 1" + strings.Repeat("0", 1000),
	} {
		for word := range limitsByWord {
			checkAnswer(t, word+behind, "wrong")
		}
	}
	for word, limits := range limitsByWord {
		for number := -3; number <= 110; number++ {
			if number < limits[0] || number > limits[1] {
				checkAnswer(t, word+" "+strconv.Itoa(number), "wrong")
			}
		}
	}
}

// A wrong line of homes leaves those that were there.
func TestWrongHomesByHand(t *testing.T) {
	for _, behind := range []string{
		"", " ", "  ", " --", " -,-", " -,1", " 1,-", " - ", "  -", " none", " x", " 1,x",
		" ,", " ,1", " 1,", " 1,,2", " ,,", " 1, 2", " 1 ,2", " 1 2", "  1", " 1 ", " 1,2 ", " 1;2", " 1,2\n", " 1,2\x00",
		" 01", " 1,02", " 00", " +1", " 1,+2", " -0", " 0,-0", " 1,2.0", " 0x1", " 1_0", " \u0661",
		" -1", " -1,0", " 51", " 0,51", " 1,100", " 2,1", " 1,2,3,2", " 50,0", " 10,9", " 1,18446744073709551618", " 18446744073709551617", " 9223372036854775808", " -9223372036854775808", " -18446744073709551615",
		" 0,0,0,0,0,0,0,0,0,0,0", " 1,2,3,4,5,6,7,8,9,10,11", " " + strings.Repeat("0,", 1000) + "0",
	} {
		checkAnswer(t, "homes"+behind, "wrong")
	}
	for _, list := range notHomes {
		checkAnswer(t, "homes "+textOf(list), "wrong")
	}
}

func TestOtherLinesByHand(t *testing.T) {
	for _, line := range []string{
		"", " ", "  ", "-", "1", "walk", "walk 1", "?", "what", "wrong", "done",
		// First words that are nearly right.
		"Sum 1", "SUM 1", "su 1", "summ 1", "sum1", "sum,1", "sum-1", "sums 1", "homes1,2", "home 1", "Homes -", "homes-", "nears 1", "resting 1", "r 1", "sweeps 3", "sweep3",
		" sum 1", "  sum 1", "\tsum 1", "sum\t1", "sum\n1", "sum\n", "\nsum 1", "sum\r", "sum\x00", "\x00sum 1", "sum\u00a01", "\ufeffsum 1", "homes\t-", "rest\v1", "\xff", "s\xffm 1", "h\u043emes -",
		"leastsum 1", "LeastSum 1", "1 sum", "homes\n-", "sumfar 1", "sum\nfar 1",
	} {
		checkAnswer(t, line, "what")
	}
}

// All lines that differ from a right one by a byte, or by two in the other order, are what they look like.
func TestLinesNearlyRight(t *testing.T) {
	for _, line := range rightLines() {
		nearlyRight(line, func(near string) {
			lines := []string{"homes 0,3,4,8,20,33", near, "sum 1", "near 2"}
			if got, want := impl.RunDesk(lines), answersOf(lines); got != want {
				t.Fatalf("RunDesk(%q) = %q, not %q", lines, got, want)
			}
		})
	}
}

// All that is asked about homes is what the functions of chapter 1 tell of them.
func TestManyHomesAtTheDesk(t *testing.T) {
	for _, homes := range manyHomes() {
		lines := []string{"homes 49", "homes " + textOf(homes), "sum 1", "sum 2", "sum 3", "sum 4", "far 1", "far 2", "far 3", "far 4", "near 0", "near 1", "near 7", "near 50"}
		want := []string{"done", "done"}
		for _, number := range []int{
			impl.LeastSum(homes, 1), impl.LeastSum(homes, 2), impl.LeastSum(homes, 3), impl.LeastSum(homes, 4), impl.LeastFar(homes, 1), impl.LeastFar(homes, 2), impl.LeastFar(homes, 3), impl.LeastFar(homes, 4),
			impl.FewestNear(homes, 0), impl.FewestNear(homes, 1), impl.FewestNear(homes, 7), impl.FewestNear(homes, 50),
		} {
			want = append(want, strconv.Itoa(number))
		}
		if got := answered(t, lines); !slices.Equal(got, want) {
			t.Fatalf("RunDesk(%q) = %q, not %q", lines, got, want)
		}
	}
}

// Promise 62, and that the answers are those of the lines.
func TestEachLineHasAnAnswer(t *testing.T) {
	for _, lines := range mixedDesks() {
		answers := impl.RunDesk(lines)
		if strings.Count(answers, "\n") != len(lines) || answers != answersOf(lines) {
			t.Fatalf("RunDesk(%q) = %q, not %q", lines, answers, answersOf(lines))
		}
		for fewer := range lines {
			if first := impl.RunDesk(lines[:fewer]); !strings.HasPrefix(answers, first) || strings.Count(first, "\n") != fewer {
				t.Fatalf("RunDesk(%q) = %q, of %d lines %q", lines, answers, fewer, first)
			}
		}
	}
}

func TestTooManyLines(t *testing.T) {
	for _, line := range []string{"", "walk", "sum 1", "homes 1,2", "homes -", "sum", "rest 9", "sweep 8"} {
		one := answered(t, []string{line})
		for count := range 3 * impl.MaxDesk {
			want := ""
			if count <= impl.MaxDesk {
				want = strings.Repeat(one[0]+"\n", count)
			}
			if got := impl.RunDesk(slices.Repeat([]string{line}, count)); got != want {
				t.Errorf("RunDesk of %d lines %q = %q", count, line, got)
			}
		}
	}
	if got := impl.RunDesk(nil); got != "" {
		t.Errorf("RunDesk(nil) = %q", got)
	}
	if got := impl.RunDesk(make([]string, 100000)); got != "" {
		t.Errorf("RunDesk of 100000 lines = %q", got)
	}
}

// The conventions: lines are not modified, also not behind their end, and no homes are kept from call to call, also not from one with too many lines.
func TestDeskKeepsNothing(t *testing.T) {
	memory := []string{"near 0", "homes 1,1,8", "near 0", "homes 2,1", "sum 1", "walk", "homes 5", ""}
	want := slices.Clone(memory)
	for range 20 {
		if got := impl.RunDesk(memory[:6]); got != "0\ndone\n2\nwrong\n7\nwhat\n" {
			t.Fatalf("RunDesk = %q", got)
		}
		if got := impl.RunDesk(slices.Repeat([]string{"homes 3"}, impl.MaxDesk+1)); got != "" {
			t.Fatalf("RunDesk of too many lines = %q", got)
		}
		if !slices.Equal(memory, want) {
			t.Fatalf("the lines have become %q", memory)
		}
	}
}
