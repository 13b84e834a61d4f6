"""Promise 1, as far as it speaks of gr_digits."""

import unittest

from singlechange.changerows import gr_digits
from tests.rows import (
    LARGEST_NUMBER, LARGEST_PLACE, SMALLEST_NUMBER,
    digits_in_long_row, is_list_of_whole_numbers, row_of_digits, spread_places,
)

WRONG_K = (1, 17, 0, 18, -1, -2, -16, SMALLEST_NUMBER, LARGEST_NUMBER)
WRONG_N = (0, 16, 17, -1, -15, SMALLEST_NUMBER, LARGEST_NUMBER)
SMALL_ROWS = (
    [(2, n) for n in range(1, 10)] + [(3, n) for n in range(1, 7)]
    + [(4, n) for n in range(1, 6)] + [(5, n) for n in range(1, 5)]
    + [(k, n) for k in range(6, 17) for n in range(1, 4)]
)


class DigitsAtPlaces(unittest.TestCase):
    def test_rows_written_out(self):
        self.assertEqual(
            [gr_digits(3, 2, i) for i in range(9)],
            [[0, 0, 0], [0, 0, 1], [0, 0, 2], [0, 1, 2], [0, 1, 1], [0, 1, 0], [0, 2, 0], [0, 2, 1], [0, 2, 2]])
        self.assertEqual(
            [gr_digits(2, 2, i) for i in range(4)],
            [[0, 0, 0], [0, 0, 1], [0, 1, 1], [0, 1, 0]])

    def test_every_place_of_short_rows(self):
        for k, n in SMALL_ROWS:
            row = row_of_digits(k, n)
            self.assertEqual(len(row), k ** n)
            for i, digits in enumerate(row):
                self.assertEqual(gr_digits(k, n, i), [0] + digits, (k, n, i))

    def test_spread_places_of_every_row(self):
        for k in range(2, 17):
            for n in range(1, 16):
                for i in spread_places(k ** n):
                    self.assertEqual(gr_digits(k, n, i), [0] + digits_in_long_row(k, n, i), (k, n, i))

    def test_one_digit_changes_by_one_in_long_rows(self):
        for k in (2, 3, 15, 16):
            for i in spread_places(k ** 15 - 1):
                here = gr_digits(k, 15, i)
                there = gr_digits(k, 15, i + 1)
                changes = [abs(a - b) for a, b in zip(here, there) if a != b]
                self.assertEqual(changes, [1], (k, i))


class DigitEdges(unittest.TestCase):
    def test_smallest_row(self):
        self.assertEqual(gr_digits(2, 1, 0), [0, 0])
        self.assertEqual(gr_digits(2, 1, 1), [0, 1])
        self.assertEqual(gr_digits(2, 1, 2), [-3])
        self.assertEqual(gr_digits(2, 1, LARGEST_PLACE), [-3])

    def test_longest_row(self):
        self.assertEqual(gr_digits(16, 15, 0), [0] * 16)
        self.assertEqual(gr_digits(16, 15, 1152921504606846975), [0, 15] + [0] * 14)
        self.assertEqual(gr_digits(16, 15, 1152921504606846976), [-3])
        self.assertEqual(gr_digits(16, 15, LARGEST_PLACE), [-3])

    def test_both_ends_of_every_row(self):
        for k in range(2, 17):
            for n in range(1, 16):
                last = [k - 1] + [0 if k % 2 == 0 else k - 1] * (n - 1)
                self.assertEqual(gr_digits(k, n, 0), [0] + [0] * n, (k, n))
                self.assertEqual(gr_digits(k, n, k ** n - 1), [0] + last, (k, n))
                self.assertEqual(gr_digits(k, n, k ** n), [-3], (k, n))
                self.assertEqual(gr_digits(k, n, k ** n + 1), [-3], (k, n))
                self.assertEqual(gr_digits(k, n, LARGEST_PLACE), [-3], (k, n))


class DigitRefusals(unittest.TestCase):
    def test_k_out_of_range(self):
        for k in WRONG_K:
            for n in (1, 2, 15):
                self.assertEqual(gr_digits(k, n, 0), [-2], (k, n))

    def test_n_out_of_range(self):
        for n in WRONG_N:
            for k in (2, 3, 16):
                self.assertEqual(gr_digits(k, n, 0), [-2], (k, n))

    def test_both_out_of_range(self):
        for k in WRONG_K:
            for n in WRONG_N:
                self.assertEqual(gr_digits(k, n, 0), [-2], (k, n))

    def test_k_and_n_are_refused_before_the_place(self):
        for k in WRONG_K:
            self.assertEqual(gr_digits(k, 3, LARGEST_PLACE), [-2], k)
        for n in WRONG_N:
            self.assertEqual(gr_digits(3, n, LARGEST_PLACE), [-2], n)
        self.assertEqual(gr_digits(17, 16, LARGEST_PLACE), [-2])

    def test_k_and_n_are_not_mixed_up(self):
        self.assertEqual(gr_digits(16, 1, 15), [0, 15])
        self.assertEqual(gr_digits(1, 16, 0), [-2])
        self.assertEqual(gr_digits(2, 3, 7), [0, 1, 0, 0])
        self.assertEqual(gr_digits(3, 2, 7), [0, 2, 1])


class DigitAnswers(unittest.TestCase):
    def test_whole_numbers_in_a_list(self):
        for k, n, i, length in ((2, 1, 0, 2), (2, 15, 9, 16), (16, 15, 16 ** 15 - 1, 16), (3, 4, 81, 1), (1, 1, 0, 1)):
            answer = gr_digits(k, n, i)
            self.assertTrue(is_list_of_whole_numbers(answer), (k, n, i))
            self.assertEqual(len(answer), length, (k, n, i))

    def test_same_call_twice(self):
        for k, n, i in ((5, 3, 77), (16, 15, 16 ** 15 - 1), (5, 3, 125), (17, 3, 0)):
            first = gr_digits(k, n, i)
            kept = list(first)
            first.append(99)
            first[0] = 98
            self.assertEqual(gr_digits(k, n, i), kept, (k, n, i))

    def test_arguments_by_name(self):
        self.assertEqual(gr_digits(k=3, n=2, i=5), [0, 1, 0])


if __name__ == "__main__":
    unittest.main()
