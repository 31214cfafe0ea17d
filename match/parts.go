package match

import "math"

// mostNumbers is how many numbers Parts divides. The document promises nothing of results with more items, and the memory for them may not exist.
const mostNumbers = math.MaxInt32

// Parts divides the numbers below n into parts that are connected by pairs. The parts are in the order of their least numbers, and each is in increasing order.
func Parts(n int, pairs [][2]int) [][]int {
	if n < 1 || n > mostNumbers {
		return nil
	}
	join, least := joiners(n)
	isNumber := func(k int) bool { return 0 <= k && k < n }
	for _, p := range pairs {
		if isNumber(p[0]) && isNumber(p[1]) {
			join(p[0], p[1])
		}
	}
	return gather(n, least)
}

// joiners returns two functions over a table of the parts: one that joins the parts of two numbers, and one that returns the least number of the part of a number. In the table, each number has a lesser one of its part; only the least one has itself.
func joiners(n int) (join func(a, b int), least func(k int) int) {
	table := make([]int, n)
	for k := range table {
		table[k] = k
	}
	least = func(k int) int {
		for table[k] != k {
			table[k] = table[table[k]] // so that long chains become shorter with each search
			k = table[k]
		}
		return k
	}
	join = func(a, b int) {
		a, b = least(a), least(b)
		table[max(a, b)] = min(a, b)
	}
	return join, least
}

// gather returns the parts. As it visits the numbers in increasing order, the least number of a part is the first one that it meets.
func gather(n int, least func(k int) int) [][]int {
	var parts [][]int
	places := make([]int, n)
	for k := range n {
		first := least(k)
		if first == k {
			places[k] = len(parts)
			parts = append(parts, nil)
		}
		place := places[first]
		parts[place] = append(parts[place], k)
	}
	return parts
}
