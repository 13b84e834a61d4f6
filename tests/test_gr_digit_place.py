"""Promise 2, as far as it speaks of gr_digit_place."""

import unittest

from singlechange.changerows import gr_digit_place, gr_digits, gr_order, gr_place, gr_set, gr_word
from tests.rows import (
    LARGEST_NUMBER, SMALLEST_NUMBER,
    UnchangeableList, is_list_of_whole_numbers, place_in_long_row_of_digits, row_of_digits, spread_places,
)

LARGEST_DIGIT = 255
WRONG_K = (1, 17, 0, 18, -1, -2, -16, SMALLEST_NUMBER, SMALLEST_NUMBER + 1, LARGEST_NUMBER - 1, LARGEST_NUMBER)
WRONG_N = (0, 16, 17, -1, -15, SMALLEST_NUMBER, SMALLEST_NUMBER + 1, LARGEST_NUMBER - 1, LARGEST_NUMBER)
SMALL_ROWS = (
    [(2, n) for n in range(1, 10)] + [(3, n) for n in range(1, 7)]
    + [(4, n) for n in range(1, 6)] + [(5, n) for n in range(1, 5)]
    + [(k, n) for k in range(6, 17) for n in range(1, 4)]
)
ALL_ROWS = [(k, n) for k in range(2, 17) for n in range(1, 16)]


def spelled(k, n, number):
    """The n digits of a number written to the base k."""
    digits = []
    for position in range(n):
        digits.insert(0, number % k)
        number = number // k
    return digits


def with_digit(digits, position, digit):
    return digits[:position] + [digit] + digits[position + 1:]


class PlacesOfDigits(unittest.TestCase):
    def test_rows_written_out(self):
        row = [[0, 0], [0, 1], [0, 2], [1, 2], [1, 1], [1, 0], [2, 0], [2, 1], [2, 2]]
        self.assertEqual([gr_digit_place(3, 2, digits) for digits in row], [[0, i] for i in range(9)])
        row = [[0, 0], [0, 1], [1, 1], [1, 0]]
        self.assertEqual([gr_digit_place(2, 2, digits) for digits in row], [[0, i] for i in range(4)])

    def test_all_digits_of_short_rows(self):
        for k, n in SMALL_ROWS:
            row = row_of_digits(k, n)
            self.assertEqual(sorted(row), [spelled(k, n, number) for number in range(k ** n)])
            for i, digits in enumerate(row):
                self.assertEqual(gr_digit_place(k, n, digits), [0, i], (k, digits))

    def test_spread_digits_of_every_row(self):
        for k, n in ALL_ROWS:
            for number in spread_places(k ** n):
                digits = spelled(k, n, number)
                place = place_in_long_row_of_digits(k, digits)
                self.assertEqual(gr_digit_place(k, n, digits), [0, place], (k, digits))


class DigitsBackAndForth(unittest.TestCase):
    def test_at_every_place_of_short_rows(self):
        for k, n in SMALL_ROWS:
            for i in range(k ** n):
                self.assertEqual(gr_digit_place(k, n, gr_digits(k, n, i)[1:]), [0, i], (k, n, i))

    def test_at_spread_places_of_every_row(self):
        for k, n in ALL_ROWS:
            for i in spread_places(k ** n):
                self.assertEqual(gr_digit_place(k, n, gr_digits(k, n, i)[1:]), [0, i], (k, n, i))

    def test_from_spread_digits_of_every_row(self):
        for k, n in ALL_ROWS:
            for number in spread_places(k ** n):
                digits = spelled(k, n, number)
                self.assertEqual(gr_digits(k, n, gr_digit_place(k, n, digits)[1]), [0] + digits, (k, digits))


class DigitsNotInTheRow(unittest.TestCase):
    def test_one_digit_too_large_in_short_rows(self):
        for k, n in ((2, 1), (2, 4), (3, 3), (4, 2), (15, 2), (16, 1), (16, 2)):
            for digits in row_of_digits(k, n):
                for position in range(n):
                    for digit in (k, k + 1, k + 2, LARGEST_DIGIT - 1, LARGEST_DIGIT):
                        wrong = with_digit(digits, position, digit)
                        self.assertEqual(gr_digit_place(k, n, wrong), [-3], (k, wrong))

    def test_one_digit_too_large_in_every_row(self):
        for k, n in ALL_ROWS:
            for digits in ([0] * n, [k - 1] * n):
                for position in range(n):
                    for digit in (k, k + 1, LARGEST_DIGIT):
                        wrong = with_digit(digits, position, digit)
                        self.assertEqual(gr_digit_place(k, n, wrong), [-3], (k, wrong))

    def test_every_digit_too_large(self):
        for k, n in ALL_ROWS:
            self.assertEqual(gr_digit_place(k, n, [k] * n), [-3], (k, n))
            self.assertEqual(gr_digit_place(k, n, [LARGEST_DIGIT] * n), [-3], (k, n))

    def test_every_single_digit(self):
        for k in range(2, 17):
            for digit in range(LARGEST_DIGIT + 1):
                answer = [0, digit] if digit < k else [-3]
                self.assertEqual(gr_digit_place(k, 1, [digit]), answer, (k, digit))


class DigitPlaceEdges(unittest.TestCase):
    def test_all_digits_0(self):
        for k, n in ALL_ROWS:
            self.assertEqual(gr_digit_place(k, n, [0] * n), [0, 0], (k, n))

    def test_all_digits_the_largest(self):
        self.assertEqual(gr_digit_place(2, 1, [1]), [0, 1])
        self.assertEqual(gr_digit_place(16, 1, [15]), [0, 15])
        self.assertEqual(gr_digit_place(2, 15, [1] * 15), [0, 21845])
        # By turns the digits behind stand from behind: f, f0, f0f and so on in hexadecimal.
        self.assertEqual(gr_digit_place(16, 15, [15] * 15), [0, 0xf0f0f0f0f0f0f0f])
        # With an odd k the last turn is forwards, so these stand last.
        self.assertEqual(gr_digit_place(15, 15, [14] * 15), [0, 15 ** 15 - 1])
        self.assertEqual(gr_digit_place(3, 15, [2] * 15), [0, 3 ** 15 - 1])

    def test_last_of_every_row(self):
        for k, n in ALL_ROWS:
            last = [k - 1] + [0 if k % 2 == 0 else k - 1] * (n - 1)
            self.assertEqual(gr_digit_place(k, n, last), [0, k ** n - 1], (k, n))

    def test_a_digit_too_large_in_the_shortest_and_longest_rows(self):
        for k in (2, 16):
            for digit in (k, LARGEST_DIGIT):
                self.assertEqual(gr_digit_place(k, 1, [digit]), [-3], (k, digit))
                for position in (0, 7, 14):
                    wrong = with_digit([0] * 15, position, digit)
                    self.assertEqual(gr_digit_place(k, 15, wrong), [-3], (k, wrong))
                    wrong = with_digit([k - 1] * 15, position, digit)
                    self.assertEqual(gr_digit_place(k, 15, wrong), [-3], (k, wrong))


class DigitPlaceRefusals(unittest.TestCase):
    def test_k_out_of_range(self):
        for k in WRONG_K:
            for n in range(1, 16):
                self.assertEqual(gr_digit_place(k, n, []), [-2], (k, n))

    def test_n_out_of_range(self):
        for n in WRONG_N:
            for k in range(2, 17):
                self.assertEqual(gr_digit_place(k, n, []), [-2], (k, n))

    def test_both_out_of_range(self):
        for k in WRONG_K:
            for n in WRONG_N:
                self.assertEqual(gr_digit_place(k, n, []), [-2], (k, n))

    def test_k_and_n_are_not_mixed_up(self):
        self.assertEqual(gr_digit_place(16, 1, [15]), [0, 15])
        self.assertEqual(gr_digit_place(1, 16, []), [-2])
        self.assertEqual(gr_digit_place(2, 3, [1, 0, 0]), [0, 7])
        self.assertEqual(gr_digit_place(3, 2, [2, 1]), [0, 7])


class DigitPlaceArguments(unittest.TestCase):
    def test_digits_are_the_same_behind_the_call(self):
        for k, n, digits in (
                (3, 4, [1, 2, 0, 1]), (16, 15, list(range(1, 16))), (2, 1, [1]),
                (3, 4, [1, 2, 3, 1]), (16, 15, [LARGEST_DIGIT] * 15), (17, 4, []), (3, 16, [])):
            kept = list(digits)
            gr_digit_place(k, n, digits)
            self.assertEqual(digits, kept, (k, n))

    def test_digits_are_not_changed_for_a_while(self):
        self.assertEqual(gr_digit_place(3, 4, UnchangeableList([1, 2, 0, 1])), [0, 34])
        self.assertEqual(gr_digit_place(3, 4, UnchangeableList([1, 2, 3, 1])), [-3])
        self.assertEqual(gr_digit_place(17, 4, UnchangeableList()), [-2])
        self.assertEqual(gr_digit_place(3, 16, UnchangeableList()), [-2])


class DigitPlaceAnswers(unittest.TestCase):
    def test_whole_numbers_in_a_list(self):
        for k, n, digits, length in (
                (2, 1, [0], 2), (2, 15, [1] * 15, 2), (16, 15, [15] + [0] * 14, 2), (3, 2, [0, 3], 1), (1, 1, [], 1)):
            answer = gr_digit_place(k, n, digits)
            self.assertTrue(is_list_of_whole_numbers(answer), (k, digits))
            self.assertEqual(len(answer), length, (k, digits))

    def test_same_call_twice(self):
        for k, n, digits in ((5, 3, [3, 0, 2]), (16, 15, [15] * 15), (5, 3, [3, 5, 2]), (17, 3, [])):
            first = gr_digit_place(k, n, digits)
            kept = list(first)
            first.append(99)
            first[0] = 98
            gr_digit_place(4, 3, [3, 1, 2])
            gr_place(6, 33)
            gr_word(5, 17)
            gr_digits(3, 4, 50)
            gr_set(6, 3, 11)
            gr_order(6, 500)
            self.assertEqual(gr_digit_place(k, n, digits), kept, (k, digits))

    def test_arguments_by_name(self):
        self.assertEqual(gr_digit_place(k=3, n=2, digits=[1, 0]), [0, 5])


if __name__ == "__main__":
    unittest.main()
