package tests

import (
	"regexp"
	"slices"
	"strconv"
	"strings"

	"loop.example/helpersinreach/impl"
)

// What right lines look like, each number written in the only right way; and how lines begin that are wrong or right.
var (
	homesLine  = regexp.MustCompile(`\Ahomes (-|(?:\d|[1-4]\d|50)(?:,(?:\d|[1-4]\d|50)){0,9})\z`)
	numberLine = regexp.MustCompile(`\A(?:(sum|far) ([1-4])|(near) (\d|[1-4]\d|50)|(sweep) ([1-8])|(rest) ([1-9]))\z`)
	knownLine  = regexp.MustCompile(`\A(?:homes|sum|far|near|sweep|rest)(?: |\z)`)
	digits     = regexp.MustCompile(`\d+`)
)

// clerk answers lines by their looks, and knows the homes.
type clerk struct {
	homes []int
}

// answersOf returns the answers to lines, each with a newline after it, by a clerk who knows no homes at first.
func answersOf(lines []string) string {
	c, answers := clerk{}, ""
	for _, line := range lines {
		answers += c.answerTo(line) + "\n"
	}
	return answers
}

func (c *clerk) answerTo(line string) string {
	if text := homesLine.FindStringSubmatch(line); text != nil {
		if homes := numbersOf(text[1]); slices.IsSorted(homes) {
			c.homes = homes
			return "done"
		}
	}
	if parts := numberLine.FindStringSubmatch(line); parts != nil {
		// Parts of other words are empty.
		parts = slices.DeleteFunc(parts[1:], func(part string) bool { return part == "" })
		return c.answerToNumber(parts[0], numbersOf(parts[1])[0])
	}
	if knownLine.MatchString(line) {
		return "wrong"
	}
	return "what"
}

func (c *clerk) answerToNumber(word string, number int) string {
	switch word {
	case "sum":
		return strconv.Itoa(impl.LeastSum(c.homes, number))
	case "far":
		return strconv.Itoa(impl.LeastFar(c.homes, number))
	case "near":
		return strconv.Itoa(impl.FewestNear(c.homes, number))
	case "sweep":
		return textOf(impl.SweepRound(number))
	default:
		return strconv.Itoa(len(impl.RestsOf(number, 2)))
	}
}

// numbersOf returns the numbers of a text, none of -.
func numbersOf(text string) []int {
	numbers := []int{}
	for _, part := range digits.FindAllString(text, -1) {
		number, _ := strconv.Atoi(part)
		numbers = append(numbers, number)
	}
	return numbers
}

// textOf returns numbers with a comma between two of them, - for none.
func textOf(numbers []int) string {
	if len(numbers) == 0 {
		return "-"
	}
	parts := []string{}
	for _, number := range numbers {
		parts = append(parts, strconv.Itoa(number))
	}
	return strings.Join(parts, ",")
}

// rightLines returns lines that are right: all of those with a number, and some with homes.
func rightLines() []string {
	lines := []string{}
	for word, limits := range limitsByWord {
		for number := limits[0]; number <= limits[1]; number++ {
			lines = append(lines, word+" "+strconv.Itoa(number))
		}
	}
	slices.Sort(lines)
	for _, homes := range [][]int{{}, {0}, {50}, {0, 0}, {9, 10}, {1, 2, 4, 10, 11}, {0, 25, 50, 50}, {0, 1, 2, 3, 4, 5, 6, 7, 8, 9}, {41, 42, 43, 44, 45, 46, 47, 48, 49, 50}} {
		lines = append(lines, "homes "+textOf(homes))
	}
	return lines
}

// limitsByWord are the least and the greatest number behind each word that takes one.
var limitsByWord = map[string][2]int{
	"sum": {1, impl.MaxHelpers}, "far": {1, impl.MaxHelpers}, "near": {0, impl.MaxPlace}, "sweep": {1, impl.MaxSpots}, "rest": {1, impl.MaxStreet},
}

// nearlyRight calls look with each line that a right one becomes by one byte more, less, or other, or by two of them in the other order.
func nearlyRight(line string, look func(string)) {
	for at := range len(line) + 1 {
		for b := range 256 {
			look(line[:at] + string([]byte{byte(b)}) + line[at:])
			if at < len(line) {
				look(line[:at] + string([]byte{byte(b)}) + line[at+1:])
			}
		}
		if at < len(line) {
			look(line[:at] + line[at+1:])
		}
		if at+1 < len(line) {
			look(line[:at] + line[at+1:at+2] + line[at:at+1] + line[at+2:])
		}
	}
}

// mixedDesks returns desks with all numbers of lines, of which about half are right, and the other ones nearly right or anything.
func mixedDesks() [][]string {
	right := rightLines()
	other := []string{"", " ", "walk", "homes", "homes ", "sum", "sum 0", "far 5", "near 51", "near -1", "sweep 9", "rest 0", "homes 2,1", "homes 51", "homes 1,,2", "sum 01", "Sum 1", " sum 1", "sum 1\n", "sum\t1", "\n\n", "\xff\x00", "done", "wrong", "what"}
	desks := [][]string{}
	for seed := range 2100 {
		lines := make([]string, seed%(impl.MaxDesk+1))
		for i := range lines {
			switch mixed(seed, 3*i, 4) {
			case 0:
				lines[i] = other[mixed(seed, 3*i+1, len(other))]
			case 1:
				lines[i] = "homes " + textOf(someHomes(seed+i))
			default:
				lines[i] = right[mixed(seed, 3*i+2, len(right))]
			}
		}
		desks = append(desks, lines)
	}
	return desks
}

// someHomes returns places of homes that follow no plain rule, sometimes one too many, out of order, or behind the last place.
func someHomes(seed int) []int {
	homes := make([]int, mixed(seed, 0, impl.MaxHomes+2))
	for i := range homes {
		homes[i] = mixed(seed, 1+i, impl.MaxPlace+2)
	}
	if seed%3 > 0 {
		slices.Sort(homes)
	}
	return homes
}
