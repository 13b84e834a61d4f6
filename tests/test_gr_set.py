"""Promise 1, as far as it speaks of gr_set."""

import math
import unittest

from singlechange.changerows import gr_digits, gr_order, gr_set, gr_word
from tests.rows import (
    LARGEST_NUMBER, LARGEST_PLACE, SMALLEST_NUMBER,
    is_list_of_whole_numbers, row_of_sets, set_in_long_row, spread_places,
)

WRONG_N = (0, 64, 65, -1, -63, SMALLEST_NUMBER, SMALLEST_NUMBER + 1, LARGEST_NUMBER)
NEVER_A_K = (-1, -2, -63, 64, SMALLEST_NUMBER, SMALLEST_NUMBER + 1, LARGEST_NUMBER)
LONG_ROWS = [(n, k) for n in (14, 20, 32, 33, 62, 63) for k in range(n + 1)]


def bits(mask):
    return bin(mask).count("1")


class SetsAtPlaces(unittest.TestCase):
    def test_rows_written_out(self):
        self.assertEqual([gr_set(3, 2, i) for i in range(3)], [[0, 3], [0, 6], [0, 5]])
        self.assertEqual(
            [gr_set(4, 2, i) for i in range(6)], [[0, 3], [0, 6], [0, 5], [0, 12], [0, 10], [0, 9]])

    def test_every_place_of_short_rows(self):
        for n in range(1, 14):
            for k in range(n + 1):
                row = row_of_sets(n, k)
                self.assertEqual(len(row), math.comb(n, k))
                for i, mask in enumerate(row):
                    self.assertEqual(gr_set(n, k, i), [0, mask], (n, k, i))
                self.assertEqual(gr_set(n, k, len(row)), [-3], (n, k))

    def test_spread_places_of_long_rows(self):
        for n, k in LONG_ROWS:
            for i in spread_places(math.comb(n, k)):
                self.assertEqual(gr_set(n, k, i), [0, set_in_long_row(n, k, i)], (n, k, i))


class OneLeavesAndOneComes(unittest.TestCase):
    def check_step(self, n, k, i):
        here = gr_set(n, k, i)[1]
        there = gr_set(n, k, i + 1)[1]
        self.assertEqual((bits(here & ~there), bits(there & ~here)), (1, 1), (n, k, i))
        self.assertEqual((bits(here), bits(there)), (k, k), (n, k, i))
        self.assertLess(max(here, there), 2 ** n, (n, k, i))

    def test_at_every_place_of_short_rows(self):
        for n in range(1, 13):
            for k in range(n + 1):
                length = math.comb(n, k)
                for i in range(length - 1):
                    self.check_step(n, k, i)
                self.assertEqual(len({gr_set(n, k, i)[1] for i in range(length)}), length, (n, k))

    def test_at_spread_places_of_long_rows(self):
        for n, k in LONG_ROWS:
            for i in spread_places(math.comb(n, k) - 1):
                self.check_step(n, k, i)


class SetEdges(unittest.TestCase):
    def test_one_thing(self):
        self.assertEqual(gr_set(1, 0, 0), [0, 0])
        self.assertEqual(gr_set(1, 0, 1), [-3])
        self.assertEqual(gr_set(1, 0, LARGEST_PLACE), [-3])
        self.assertEqual(gr_set(1, 1, 0), [0, 1])
        self.assertEqual(gr_set(1, 1, 1), [-3])
        self.assertEqual(gr_set(1, 1, LARGEST_PLACE), [-3])

    def test_none_and_all_of_sixty_three(self):
        self.assertEqual(gr_set(63, 0, 0), [0, 0])
        self.assertEqual(gr_set(63, 0, 1), [-3])
        self.assertEqual(gr_set(63, 63, 0), [0, 9223372036854775807])
        self.assertEqual(gr_set(63, 63, 1), [-3])

    def test_one_of_sixty_three(self):
        for i in range(63):
            self.assertEqual(gr_set(63, 1, i), [0, 2 ** i], i)
        self.assertEqual(gr_set(63, 1, 63), [-3])

    def test_all_but_one_of_sixty_three(self):
        row = row_of_sets(63, 62)
        self.assertEqual([gr_set(63, 62, i) for i in range(63)], [[0, mask] for mask in row])
        self.assertEqual(gr_set(63, 62, 63), [-3])

    def test_the_longest_rows(self):
        for k in (31, 32):
            self.assertEqual(gr_set(63, k, 0), [0, 2 ** k - 1])
            self.assertEqual(gr_set(63, k, 916312070471295266), [0, 2 ** 62 + 2 ** (k - 1) - 1])
            self.assertEqual(gr_set(63, k, 916312070471295267), [-3])
            self.assertEqual(gr_set(63, k, LARGEST_PLACE), [-3])

    def test_both_ends_of_every_row(self):
        for n in range(1, 64):
            for k in range(n + 1):
                length = math.comb(n, k)
                last = 2 ** (n - 1) + 2 ** (k - 1) - 1 if 0 < k < n else 2 ** k - 1
                self.assertEqual(gr_set(n, k, 0), [0, 2 ** k - 1], (n, k))
                self.assertEqual(gr_set(n, k, length - 1), [0, last], (n, k))
                for i in (length, length + 1, 2 ** 63, LARGEST_PLACE):
                    self.assertEqual(gr_set(n, k, i), [-3], (n, k, i))


class SetRefusals(unittest.TestCase):
    def test_n_out_of_range(self):
        for n in WRONG_N:
            for k in (0, 1, 63):
                self.assertEqual(gr_set(n, k, 0), [-2], (n, k))
            self.assertEqual(gr_set(n, n, 0), [-2], n)

    def test_k_out_of_range(self):
        for n in range(1, 64):
            for k in (-1, n + 1, n + 2) + NEVER_A_K:
                self.assertEqual(gr_set(n, k, 0), [-2], (n, k))

    def test_both_out_of_range(self):
        for n in WRONG_N:
            for k in NEVER_A_K:
                self.assertEqual(gr_set(n, k, 0), [-2], (n, k))

    def test_n_and_k_are_refused_before_the_place(self):
        for i in (2 ** 63, LARGEST_PLACE):
            for n in WRONG_N:
                for k in (0, 1, n, n + 1, -1):
                    self.assertEqual(gr_set(n, k, i), [-2], (n, k, i))
            for n in (1, 2, 31, 63):
                for k in (n + 1,) + NEVER_A_K:
                    self.assertEqual(gr_set(n, k, i), [-2], (n, k, i))

    def test_n_and_k_are_not_mixed_up(self):
        self.assertEqual(gr_set(5, 2, 0), [0, 3])
        self.assertEqual(gr_set(2, 5, 0), [-2])


class SetAnswers(unittest.TestCase):
    def test_whole_numbers_in_a_list(self):
        calls = (
            (1, 0, 0, 2), (1, 1, 0, 2), (63, 31, 5, 2), (63, 63, 0, 2), (63, 31, LARGEST_PLACE, 1), (4, 5, 0, 1))
        for n, k, i, length in calls:
            answer = gr_set(n, k, i)
            self.assertTrue(is_list_of_whole_numbers(answer), (n, k, i))
            self.assertEqual(len(answer), length, (n, k, i))

    def test_same_call_twice(self):
        for n, k, i in ((6, 3, 11), (63, 31, 916312070471295266), (6, 3, 20), (6, 7, 0)):
            first = gr_set(n, k, i)
            kept = list(first)
            first.append(99)
            first[0] = 98
            gr_set(7, 4, 30)
            gr_order(5, 77)
            gr_word(5, 17)
            gr_digits(3, 4, 50)
            self.assertEqual(gr_set(n, k, i), kept, (n, k, i))

    def test_arguments_by_name(self):
        self.assertEqual(gr_set(n=4, k=2, i=3), [0, 12])


if __name__ == "__main__":
    unittest.main()
