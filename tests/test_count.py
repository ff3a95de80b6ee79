"""Promise 2: count."""

import contextlib
import faulthandler
import io
import itertools
import unittest

from boardways.desk import count, queens

LOWEST = -2147483648
HIGHEST = 2147483647
RINGS = (1, -1, 2, -2, 3, 5, 6, 12, -12, 1000, LOWEST, HIGHEST)
LONGEST_SECONDS = 120
OUTSIDE = (-1, 0, 13, 64, 65, 1000, LOWEST, HIGHEST, -2, -12, 14, HIGHEST - 1)


def setUpModule():
    # Were an n above 12 counted, it would hardly end: that is to fail, not to hang.
    faulthandler.dump_traceback_later(LONGEST_SECONDS, exit=True)


def tearDownModule():
    faulthandler.cancel_dump_traceback_later()


def see_on_board(i, x, j, y, n):
    return abs(x - y) == abs(i - j)


def see_on_ring(i, x, j, y, n):
    return (x - i) % n == (y - j) % n or (x + i) % n == (y + j) % n


def ways(n, see):
    """Every way to stand, by trying every order of the columns: row i has its queen in column order[i]."""
    pairs = list(itertools.combinations(range(n), 2))
    return [
        order
        for order in itertools.permutations(range(n))
        if not any(see(i, order[i], j, order[j], n) for i, j in pairs)
    ]


class OutOfRange(unittest.TestCase):
    def test_board(self):
        for n in OUTSIDE:
            with self.subTest(n=n):
                self.assertEqual(count(n, 0), [-2])

    def test_ring(self):
        for n in OUTSIDE:
            for ring in RINGS:
                with self.subTest(n=n, ring=ring):
                    self.assertEqual(count(n, ring), [-2])


class Board(unittest.TestCase):
    def test_answers_by_hand(self):
        for n, answer in ((1, 1), (2, 0), (3, 0), (4, 2), (5, 10), (6, 4)):
            with self.subTest(n=n):
                self.assertEqual(count(n, 0), [answer])

    def test_answers_by_search(self):
        for n in range(1, 9):
            with self.subTest(n=n):
                self.assertEqual(count(n, 0), [len(ways(n, see_on_board))])

    def test_answers_that_are_well_known(self):
        for n, answer in ((7, 40), (8, 92), (9, 352), (10, 724), (11, 2680), (12, 14200)):
            with self.subTest(n=n):
                self.assertEqual(count(n, 0), [answer])

    def test_turned_and_mirrored_ones_are_others(self):
        # On 4 rows one way is the other's mirror picture: both are counted.
        self.assertEqual(ways(4, see_on_board), [(1, 3, 0, 2), (2, 0, 3, 1)])
        self.assertEqual(count(4, 0), [2])


class Ring(unittest.TestCase):
    def test_answers_by_hand(self):
        for n, answer in ((1, 1), (2, 0), (3, 0), (4, 0), (5, 10), (6, 0)):
            for ring in RINGS:
                with self.subTest(n=n, ring=ring):
                    self.assertEqual(count(n, ring), [answer])

    def test_answers_by_search(self):
        for n in range(1, 9):
            answer = [len(ways(n, see_on_ring))]
            for ring in (1, -1, n, -n):
                with self.subTest(n=n, ring=ring):
                    self.assertEqual(count(n, ring), answer)

    def test_answers_that_are_well_known(self):
        for n, answer in ((7, 28), (8, 0), (9, 0), (10, 0), (11, 88), (12, 0)):
            with self.subTest(n=n):
                self.assertEqual(count(n, -1), [answer])


class BesideQueens(unittest.TestCase):
    def test_ways_are_counted_where_queens_tells_of_one(self):
        for n in range(1, 12):
            for ring in (0, 1, -1):
                with self.subTest(n=n, ring=ring):
                    self.assertEqual([int(count(n, ring)[0] > 0)], queens(n, ring))


class WhatIsGivenBack(unittest.TestCase):
    CALLS = [(n, ring) for n in (-1, 0, 1, 2, 3, 4, 5, 6, 13, 65) for ring in (0, 1, -1)]

    def test_a_list_of_one_whole_number(self):
        for n, ring in self.CALLS:
            with self.subTest(n=n, ring=ring):
                answer = count(n, ring)
                self.assertIs(type(answer), list)
                self.assertEqual([type(number) for number in answer], [int])

    def test_arguments_by_name(self):
        self.assertEqual(count(n=6, ring=0), [4])
        self.assertEqual(count(ring=1, n=6), [0])

    def test_a_new_list_at_each_call(self):
        for n, ring in self.CALLS:
            with self.subTest(n=n, ring=ring):
                first = count(n, ring)
                kept = list(first)
                second = count(n, ring)
                self.assertIsNot(first, second)
                first[0] = 99
                first.append(99)
                self.assertEqual(second, kept)
                self.assertEqual(count(n, ring), kept)

    def test_the_same_in_whatever_order(self):
        calls = [(call, n, ring) for call in (count, queens) for n, ring in self.CALLS]
        told = {(call, n, ring): call(n, ring) for call, n, ring in calls}
        orders = (calls, calls[::-1], calls[::2] + calls[1::2], calls * 3)
        for order in orders:
            for call, n, ring in order:
                self.assertEqual(call(n, ring), told[call, n, ring])
        for before, after in itertools.product(calls, calls):
            before[0](before[1], before[2])
            self.assertEqual(after[0](after[1], after[2]), told[after])

    def test_nothing_is_printed(self):
        out = io.StringIO()
        err = io.StringIO()
        with contextlib.redirect_stdout(out), contextlib.redirect_stderr(err):
            for n, ring in self.CALLS:
                count(n, ring)
        self.assertEqual((out.getvalue(), err.getvalue()), ("", ""))


if __name__ == "__main__":
    unittest.main()
