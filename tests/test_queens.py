"""Promise 1: queens."""

import contextlib
import io
import itertools
import unittest

from boardways.desk import queens

LOWEST = -2147483648
HIGHEST = 2147483647
RINGS = (1, -1, 2, -2, 3, 6, 64, -64, 1000, LOWEST, HIGHEST)
OUTSIDE = (-1, 0, 65, 1000, LOWEST, HIGHEST, -2, -64, 66, HIGHEST - 1)


def see_on_board(i, x, j, y, n):
    return abs(x - y) == abs(i - j)


def see_on_ring(i, x, j, y, n):
    return (x - i) % n == (y - j) % n or (x + i) % n == (y + j) % n


def stands(columns, see):
    """Whether queens at row i and column columns[i] stand as the document's section Queens asks."""
    n = len(columns)
    if sorted(columns) != list(range(n)):
        return False
    pairs = itertools.combinations(range(n), 2)
    return not any(see(i, columns[i], j, columns[j], n) for i, j in pairs)


def search(n, see):
    """1 or 0, by trying every order of the columns."""
    return int(any(stands(order, see) for order in itertools.permutations(range(n))))


def board_way(n):
    """A way for n = 1 and every n from 4 on: the even columns first, then the odd ones, a few of them moved."""
    even = list(range(2, n + 1, 2))
    odd = list(range(1, n + 1, 2))
    if n % 6 == 2:
        odd = [3, 1] + odd[3:] + [5]
    if n % 6 == 3:
        even = even[1:] + [2]
        odd = odd[2:] + [1, 3]
    return [column - 1 for column in even + odd]


class OutOfRange(unittest.TestCase):
    def test_board(self):
        for n in OUTSIDE:
            with self.subTest(n=n):
                self.assertEqual(queens(n, 0), [-2])

    def test_ring(self):
        for n in OUTSIDE:
            for ring in RINGS:
                with self.subTest(n=n, ring=ring):
                    self.assertEqual(queens(n, ring), [-2])


class Board(unittest.TestCase):
    def test_answers_by_hand(self):
        for n, answer in ((1, 1), (2, 0), (3, 0), (4, 1), (5, 1), (6, 1)):
            with self.subTest(n=n):
                self.assertEqual(queens(n, 0), [answer])

    def test_answers_by_search(self):
        for n in range(1, 9):
            with self.subTest(n=n):
                self.assertEqual(queens(n, 0), [search(n, see_on_board)])

    def test_a_way_for_every_larger_size(self):
        for n in range(4, 65):
            with self.subTest(n=n):
                self.assertTrue(stands(board_way(n), see_on_board))
                self.assertEqual(queens(n, 0), [1])


class Ring(unittest.TestCase):
    def test_answers_by_hand(self):
        for n, answer in ((1, 1), (2, 0), (3, 0), (4, 0), (5, 1), (6, 0)):
            for ring in RINGS:
                with self.subTest(n=n, ring=ring):
                    self.assertEqual(queens(n, ring), [answer])

    def test_answers_by_search(self):
        for n in range(1, 10):
            with self.subTest(n=n):
                self.assertEqual(queens(n, 1), [search(n, see_on_ring)])

    def test_a_way_wherever_one_is_told(self):
        for n in range(1, 65):
            with self.subTest(n=n):
                way = [2 * row % n for row in range(n)]
                self.assertEqual(queens(n, -1), [int(stands(way, see_on_ring))])


class WhatIsGivenBack(unittest.TestCase):
    CALLS = [(n, ring) for n in (-1, 0, 1, 2, 3, 4, 5, 6, 65) for ring in (0, 1, -1)]

    def test_a_list_of_one_whole_number(self):
        for n, ring in self.CALLS:
            with self.subTest(n=n, ring=ring):
                answer = queens(n, ring)
                self.assertIs(type(answer), list)
                self.assertEqual([type(number) for number in answer], [int])

    def test_arguments_by_name(self):
        self.assertEqual(queens(n=4, ring=0), [1])
        self.assertEqual(queens(ring=1, n=4), [0])

    def test_a_new_list_at_each_call(self):
        for n, ring in self.CALLS:
            with self.subTest(n=n, ring=ring):
                first = queens(n, ring)
                kept = list(first)
                second = queens(n, ring)
                self.assertIsNot(first, second)
                first[0] = 99
                first.append(99)
                self.assertEqual(second, kept)
                self.assertEqual(queens(n, ring), kept)

    def test_the_same_in_whatever_order(self):
        told = {call: queens(*call) for call in self.CALLS}
        orders = (self.CALLS, self.CALLS[::-1], self.CALLS[::2] + self.CALLS[1::2], self.CALLS * 3)
        for order in orders:
            for call in order:
                self.assertEqual(queens(*call), told[call])
        for before, call in itertools.product(self.CALLS, self.CALLS):
            queens(*before)
            self.assertEqual(queens(*call), told[call])

    def test_nothing_is_printed(self):
        out = io.StringIO()
        err = io.StringIO()
        with contextlib.redirect_stdout(out), contextlib.redirect_stderr(err):
            for call in self.CALLS:
                queens(*call)
        self.assertEqual((out.getvalue(), err.getvalue()), ("", ""))


if __name__ == "__main__":
    unittest.main()
