"""Promise 3: tour."""

import contextlib
import functools
import inspect
import io
import itertools
import unittest

from boardways.desk import count, queens, tour

LOWEST = -2147483648
HIGHEST = 2147483647
ROUNDS = (1, -1, 2, -2, 12, 32, 33, 1000, LOWEST, HIGHEST)
OUTSIDE = (-1, 0, 33, 1000, LOWEST, HIGHEST, -2, -12, -32, 34, HIGHEST - 1)
INSIDE = (1, 12, 32, 2, 3, 4, 31)
SMALL = [(m, n) for m in range(1, 13) for n in range(1, 13) if m * n <= 12]
SIDES = range(1, 33)
# Each way that is searched for is found well within these; were one told where there is none, that fails soon.
MOST_STEPS = 50000


def is_move(cell, other, n):
    """Whether a knight goes from the one cell to the other; cells are numbered row by row, n to a row."""
    rows = abs(cell // n - other // n)
    columns = abs(cell % n - other % n)
    return (rows, columns) in ((1, 2), (2, 1))


def is_way(way, m, n):
    every_cell_once = sorted(way) == list(range(m * n))
    return every_cell_once and all(is_move(cell, other, n) for cell, other in zip(way, way[1:]))


def is_way_round(way, m, n):
    return is_way(way, m, n) and is_move(way[-1], way[0], n)


def ways_from(start, m, n):
    """Every way that begins with this cell, by trying every move."""
    cells = range(m * n)
    near = [[other for other in cells if is_move(cell, other, n)] for cell in cells]
    ways = [(start,)]
    for _ in cells[1:]:
        ways = [way + (cell,) for way in ways for cell in near[way[-1]] if cell not in way]
    return ways


def search(m, n):
    """1 or 0: whether there's a way."""
    return int(any(ways_from(start, m, n) for start in range(m * n)))


def search_round(m, n):
    """1 or 0: whether there's a way round. It goes over every cell, so it may as well begin with cell 0."""
    return int(any(is_move(way[-1], way[0], n) for way in ways_from(0, m, n)))


class OutOfRange(unittest.TestCase):
    PAIRS = (
        [(m, n) for m in OUTSIDE for n in INSIDE]
        + [(m, n) for m in INSIDE for n in OUTSIDE]
        + [(m, n) for m in OUTSIDE for n in OUTSIDE]
    )

    def test_way(self):
        for m, n in self.PAIRS:
            with self.subTest(m=m, n=n):
                self.assertEqual(tour(m, n, 0), [-2])

    def test_way_round(self):
        for m, n in self.PAIRS:
            for the_round in ROUNDS:
                with self.subTest(m=m, n=n, the_round=the_round):
                    self.assertEqual(tour(m, n, the_round), [-2])


class Way(unittest.TestCase):
    def test_answers_by_hand(self):
        for m, n in SMALL:
            answer = int((m, n) in ((1, 1), (3, 4), (4, 3)))
            with self.subTest(m=m, n=n):
                self.assertEqual(tour(m, n, 0), [answer])

    def test_answers_by_search(self):
        for m, n in SMALL:
            with self.subTest(m=m, n=n):
                self.assertEqual(tour(m, n, 0), [search(m, n)])

    def test_a_way_that_is_written_out(self):
        self.assertTrue(is_way([0, 6, 8, 1, 7, 9, 2, 4, 10, 3, 5, 11], 3, 4))
        self.assertEqual(tour(3, 4, 0), [1])

    def test_one_cell_is_a_way_without_a_move(self):
        self.assertTrue(is_way([0], 1, 1))
        self.assertEqual(tour(1, 1, 0), [1])


class WayRound(unittest.TestCase):
    def test_answers_by_hand(self):
        for m, n in SMALL:
            for the_round in ROUNDS:
                with self.subTest(m=m, n=n, the_round=the_round):
                    self.assertEqual(tour(m, n, the_round), [0])

    def test_answers_by_search(self):
        for m, n in SMALL:
            answer = [search_round(m, n)]
            for the_round in (1, -1, m, -n):
                with self.subTest(m=m, n=n, the_round=the_round):
                    self.assertEqual(tour(m, n, the_round), answer)

    def test_from_one_cell_no_move_leads_home(self):
        self.assertFalse(is_way_round([0], 1, 1))
        self.assertEqual(tour(1, 1, 1), [0])
        self.assertEqual(tour(1, 1, -1), [0])


# From here on: ways over larger boards than are handed in, up to the longest sides that promise 3 names.
# They are put together from ways over smaller ones; a cell is a pair of its row and its column here.


def beside(cell, m, n):
    """The cells to which a knight goes from this one."""
    row, column = cell
    steps = ((-2, -1), (-2, 1), (-1, -2), (-1, 2), (1, -2), (1, 2), (2, -1), (2, 1))
    others = [(row + down, column + right) for down, right in steps]
    return [(i, x) for i, x in others if 0 <= i < m and 0 <= x < n]


def found_way(m, n, start, ends):
    """A way from start to one of the ends; a cell with few free ones beside it goes first, as that is soon found."""
    near = {cell: beside(cell, m, n) for cell in itertools.product(range(m), range(n))}
    free = dict.fromkeys(near, True)

    def choices(cell):
        others = [other for other in near[cell] if free[other]]
        return sorted(others, key=lambda other: -sum(free[further] for further in near[other]))

    free[start] = False
    way = [start]
    untried = [choices(start)]
    for _ in range(MOST_STEPS):
        if len(way) == m * n and way[-1] in ends:
            return way
        if untried[-1] and any(free[end] for end in ends):
            cell = untried[-1].pop()
            free[cell] = False
            way.append(cell)
            untried.append(choices(cell))
        elif len(way) > 1:
            untried.pop()
            free[way.pop()] = True
        else:
            break
    raise LookupError("no way was found")


def joined(way, home, m, n):
    """One way over the cells of both: the way round goes in between two cells of the other."""
    place = {cell: k for k, cell in enumerate(home)}
    for k in range(1, len(way)):
        for first in [cell for cell in beside(way[k - 1], m, n) if cell in place]:
            onward = home[place[first] :] + home[: place[first]]
            backward = onward[:1] + onward[:0:-1]
            for middle in (onward, backward):
                if middle[-1] in beside(way[k], m, n):
                    return way[:k] + middle + way[k:]
    raise LookupError("nowhere do both lie side by side")


def put_between(way, pair, middle):
    """The way with these cells between two that follow one another in it, whichever of the two comes first."""
    k = min(way.index(cell) for cell in pair)
    if way[k : k + 2] == pair[::-1]:
        middle = middle[::-1]
    elif way[k : k + 2] != pair:
        raise LookupError("the two don't follow one another")
    return way[: k + 1] + middle + way[k + 1 :]


def widened_three(way, n):
    """A way over 3 rows and n + 4 columns from one over n: behind a corner it goes over all of the four."""
    middle = [(row, column + n) for row, column in found_way(3, 4, (2, 0), [(1, 0)])]
    return put_between(way, [(0, n - 1), (2, n - 2)], middle)


def widened_four(way, n):
    """A way over 4 rows and n + 3 columns from one over n: behind each corner it goes over half of the three."""
    upper = [(1, n + 1), (3, n + 2), (2, n), (0, n + 1), (2, n + 2), (3, n)]
    lower = [(3 - row, column) for row, column in upper]
    way = put_between(way, [(0, n - 1), (2, n - 2)], upper)
    return put_between(way, [(3, n - 1), (1, n - 2)], lower)


@functools.cache
def built(m, n, home):
    """A way, or a way round if home is True, where there is one."""
    if m > n:
        return [(row, column) for column, row in built(n, m, home)]
    if m == 3 and n > (12 if home else 9):
        return widened_three(built(3, n - 4, home), n - 4)
    if m == 4 and n > 7:
        return widened_four(built(4, n - 3, home), n - 3)
    # So many columns that there is a way round over them.
    more = 5 if m % 2 == 0 else 6
    if m > 4 and n - more >= 5:
        added = [(row, column + n - more) for row, column in built(m, more, True)]
        return joined(built(m, n - more, home), added, m, n)
    start = (0, 1) if home else (0, 0)
    every_cell = list(itertools.product(range(m), range(n)))
    return found_way(m, n, start, beside(start, m, n) if home else every_cell)


class LargerBoards(unittest.TestCase):
    BOARDS = list(itertools.product(SIDES, SIDES))

    def test_a_way_wherever_one_is_told(self):
        for m, n in self.BOARDS:
            if tour(m, n, 0) == [1] and tour(m, n, 1) == [0]:
                with self.subTest(m=m, n=n):
                    way = [row * n + column for row, column in built(m, n, False)]
                    self.assertTrue(is_way(way, m, n))

    def test_a_way_round_wherever_one_is_told(self):
        for m, n in self.BOARDS:
            if tour(m, n, 1) == [1]:
                with self.subTest(m=m, n=n):
                    self.assertEqual(m * n % 2, 0)
                    way = [row * n + column for row, column in built(m, n, True)]
                    self.assertTrue(is_way_round(way, m, n))
                    self.assertEqual(tour(m, n, 0), [1])

    def test_no_way_wherever_none_is_told(self):
        for m, n in self.BOARDS:
            if tour(m, n, 0) != [1]:
                with self.subTest(m=m, n=n):
                    self.assertEqual(tour(m, n, 0), [0])
                    # Why there is none on one row or two, the program's remarks say; the others are tried to the end.
                    if min(m, n) > 2:
                        self.assertLessEqual(m * n, 18)
                        self.assertEqual(search(m, n), 0)

    def test_no_way_round_wherever_none_is_told(self):
        for m, n in self.BOARDS:
            if tour(m, n, -1) != [1]:
                with self.subTest(m=m, n=n):
                    self.assertEqual(tour(m, n, -1), [0])
                    # Nor for an odd number of cells or on four rows: the remarks say why, too.
                    if m * n % 2 == 0 and min(m, n) not in (1, 2, 4):
                        self.assertLessEqual(m * n, 24)
                        self.assertEqual(search_round(m, n), 0)


class WhatIsGivenBack(unittest.TestCase):
    BOARDS = ((1, 1), (1, 2), (2, 6), (3, 3), (3, 4), (4, 3), (12, 1), (0, 1), (1, 0), (33, 12), (-1, 33))
    CALLS = [(m, n, the_round) for m, n in BOARDS for the_round in (0, 1, -1)]

    def test_a_list_of_one_whole_number(self):
        for call in self.CALLS:
            with self.subTest(call=call):
                answer = tour(*call)
                self.assertIs(type(answer), list)
                self.assertEqual([type(number) for number in answer], [int])

    def test_arguments_by_name(self):
        self.assertEqual(tour(m=3, n=4, the_round=0), [1])
        self.assertEqual(tour(the_round=1, n=4, m=3), [0])
        self.assertEqual(tour(n=33, the_round=0, m=1), [-2])
        self.assertEqual(list(inspect.signature(tour).parameters), ["m", "n", "the_round"])

    def test_a_new_list_at_each_call(self):
        for call in self.CALLS:
            with self.subTest(call=call):
                first = tour(*call)
                kept = list(first)
                second = tour(*call)
                self.assertIsNot(first, second)
                first[0] = 99
                first.append(99)
                self.assertEqual(second, kept)
                self.assertEqual(tour(*call), kept)

    def test_the_same_in_whatever_order(self):
        others = [(n, ring) for n in (-1, 0, 1, 3, 4, 5, 65) for ring in (0, -1)]
        calls = [(tour, call) for call in self.CALLS]
        calls += [(function, call) for function in (queens, count) for call in others]
        told = [function(*call) for function, call in calls]
        both = list(zip(calls, told))
        for order in (both, both[::-1], both[::2] + both[1::2], both * 3):
            for (function, call), answer in order:
                self.assertEqual(function(*call), answer)
        for (before, given), ((function, call), answer) in itertools.product(calls, both):
            before(*given)
            self.assertEqual(function(*call), answer)

    def test_nothing_is_printed(self):
        out = io.StringIO()
        err = io.StringIO()
        with contextlib.redirect_stdout(out), contextlib.redirect_stderr(err):
            for call in self.CALLS:
                tour(*call)
        self.assertEqual((out.getvalue(), err.getvalue()), ("", ""))


if __name__ == "__main__":
    unittest.main()
